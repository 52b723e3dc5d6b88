/- Merged: Own2, News, R11D. -/
import Derived.Laws.AppendOwn
import Derived.Below
import Derived.WalkKit
import Derived.Test.YtnfallkeicehiaaDoorQ12
import Derived.Laws.ResultCell
import Derived.Laws.AppendOwnNone
import Derived.Test.YtnfallkeicehiaaDoorQ11
namespace Go.Proofs.YtnfallkeicehiaaDoor

section
open Go.RowKit
theorem append_block {P : Program} (w : World) (base : Nat) (t ty e : TypeId) (i : TypeInfo) (z : Value) (size bytes : Nat) (ht : P.underlying t = some (.slice e)) (hi : P.info? e = some i) (hz : i.zero = some z)
    (hsize : i.size = size) (hby : i.bytes = bytes) (v : Value) (n : Nat) (xs : List Value) (hown : w.ownsRow base e size v n xs)
    (a : Addr) (m c : Nat) (news : List Value) (hl : news.length = m * size) (hnews : ∀ j u, news[j]? = some u → w.cell? (a.add j) = some u) (h1 : ∀ u ∈ news, u.oneCell' = true) (hm : 0 < m)
    (h63 : n + m ≤ maxLen) (hbytes : (n + m) * bytes ≤ 140737488355328) (v' : Value) (w' : World) (hr : (Builtin.append_ #[t, t] ty #[v, .slice (some a) m c]).run P w = .ok v' w') :
    v'.ownBlock = v.ownBlock ∨ v'.ownBlock = some w.heap.size := by
  subst hsize
  subst hby
  have hsmall : n + m ≤ 9223372036854775807 := by simp only [maxLen] at h63; omega
  rcases hown.2 with ⟨rfl, rfl⟩ | ⟨g, cap, cur, rfl, hbg, hg, hnc, hcm, hcs, htake⟩
  · have h2 := run_append_nil (P := P) w t ty e i z ht hi hz a m c news hl hnews hm (by omega) (by have hb := hbytes; simp only [Nat.zero_add] at hb; omega)
    rw [hr] at h2
    injection h2 with h3 h4
    rw [h3]
    exact .inr rfl
  · by_cases hroom : n + m ≤ cap
    · have hfit : n * i.size + news.length ≤ cur.size := by rw [hl, hcs, ← Nat.add_mul]; exact Nat.mul_le_mul_right _ hroom
      have h2 := run_append_room (P := P) w t ty e i ht hi g n cap cur hg a m c news hl hnews h1 hroom hfit
      rw [hr] at h2
      injection h2 with h3 h4
      rw [h3]
      exact .inl rfl
    · have h2 := run_append_grow (P := P) w t ty e i z ht hi hz ⟨g, 0, none⟩ n cap xs hown.1 (hown.cells (g := g) rfl) a m c news hl hnews (by omega) (by omega) (growslice_fits (by omega) hbytes)
      rw [hr] at h2
      injection h2 with h3 h4
      rw [h3]
      exact .inr rfl

theorem wpList_append_two {P : Program} (w : World) {ops : Array Oper} {rest : List Oper} {o : Oper} {a : Act} {Q : Exit → Act → World → Prop} (hgd : o.guard = none) (s x : Operand) (t : TypeId)
    (ho : o.op = .call { callee := .builtin .append, args := #[s, x], argTypes := #[t, t] })
    (base : Nat) (e : TypeId) (i : TypeInfo) (z : Value) (size bytes : Nat) (ht : P.underlying t = some (.slice e)) (hi : P.info? e = some i) (hz : i.zero = some z)
    (hsize : i.size = size) (hby : i.bytes = bytes) (hzs : z.cells.size = size) (hsz : 0 < size)
    (v : Value) (n : Nat) (xs : List Value) (hs : a.eval s = v) (hown : w.ownsRow base e size v n xs)
    (ad : Addr) (m c : Nat) (news : List Value) (hx : a.eval x = .slice (some ad) m c) (hl : news.length = m * size) (hnews : ∀ j u, news[j]? = some u → w.cell? (ad.add j) = some u) (h1 : ∀ u ∈ news, u.oneCell' = true) (hm : 0 < m)
    (h63 : n + m ≤ maxLen) (hbytes : (n + m) * bytes ≤ 140737488355328) (hbase : base ≤ w.heap.size)
    (h : ∀ v' w', w'.ownsRow base e size v' (n + m) (xs ++ news) → w.grownBy w' v.ownBlock → v' ≠ .slice none 0 0 → (v'.ownBlock = v.ownBlock ∨ v'.ownBlock = some w.heap.size) → wpList P ops Q rest (a.put o.dst v') w') : wpList P ops Q (o :: rest) a w :=
  wpList_plain hgd fun K hK => by
    obtain ⟨v', w', hr, h2, h3, h4⟩ := run_append_own (P := P) w base t o.type e i z size bytes ht hi hz hsize hby hzs hsz v n xs hown ad m c news hl hnews h1 h63 hbytes hbase
    have h5 := append_block w base t o.type e i z size bytes ht hi hz hsize hby v n xs hown ad m c news hl hnews h1 hm h63 hbytes v' w' hr
    have h6 : K (a.put o.dst v') w' := hK _ _ (h v' w' h2 h3 (fun he => by have := (h4.1 he).2; omega) h5)
    unfold Oper.wp execOp
    simp only [ho, resolve, invoke, builtin, Sem.run_bind, Sem.run_pure, Result.andThen_ok, List.map_toArray, List.map_cons, List.map_nil, hs, hx, hr]
    exact h6

/-- Another row stays where it is, and apart. -/
theorem own_apart {w w' : World} {base2 e2 size2 n2 : Nat} {v v' u : Value} {ys : List Value} (hu : w.ownsRow base2 e2 size2 u n2 ys) (hg : w.grownBy w' v.ownBlock)
    (hne : u.ownBlock = none ∨ u.ownBlock ≠ v.ownBlock) (hb : v'.ownBlock = v.ownBlock ∨ v'.ownBlock = some w.heap.size) :
    w'.ownsRow base2 e2 size2 u n2 ys ∧ (u.ownBlock = none ∨ u.ownBlock ≠ v'.ownBlock) := by
  refine ⟨hu.kept hg hne, ?_⟩
  rcases hne with h | h
  · exact .inl h
  · rcases hb with h2 | h2
    · exact .inr (by rw [h2]; exact h)
    · refine .inr fun h3 => ?_
      have := (hu.lt _ (h3.trans h2)).2
      omega
end

section
open Go.RowKit Go.PlainAid
/-- What holds of blocks from B on alone. -/
def New (B : Nat) (P : World → Prop) (w : World) : Prop := ∀ w' : World, w.heap.size ≤ w'.heap.size → (∀ i, B ≤ i → i < w.heap.size → w'.heap[i]? = w.heap[i]?) → P w'
theorem New.here {B : Nat} {P : World → Prop} {w : World} (h : New B P w) : P w := h w (Nat.le_refl _) (fun _ _ _ => rfl)
theorem New.on {B : Nat} {P : World → Prop} {w w' : World} (h : New B P w) (hs : w.heap.size ≤ w'.heap.size) (hb : ∀ i, B ≤ i → i < w.heap.size → w'.heap[i]? = w.heap[i]?) : New B P w' :=
  fun w2 h1 h2 => h w2 (Nat.le_trans hs h1) fun i h3 h4 => (h2 i h3 (Nat.lt_of_lt_of_le h4 hs)).trans (hb i h3 h4)
theorem New.mono {B B' : Nat} {P : World → Prop} {w : World} (h : New B' P w) (hB : B ≤ B') : New B P w :=
  fun w2 h1 h2 => h w2 h1 fun i h3 h4 => h2 i (Nat.le_trans hB h3) h4
theorem New.after {B : Nat} {P : World → Prop} {w w' : World} (h : New B P w) (hb : Below w.heap.size w w') : New B P w' := h.on hb.size fun i _ hi => hb.block i hi

theorem heap_setn (w : World) (p : Addr) (v : Value) (g : Nat) (h : g ≠ p.block) : (w.setCell p v).heap[g]? = w.heap[g]? := Below.heap_setCell _ _ _ _ h
/-- A row that lies from B on lies there in every world with the same blocks from B on. -/
theorem own_same {w w' : World} {B e size n : Nat} {v : Value} {xs : List Value} (h : w.ownsRow B e size v n xs) (hb : ∀ i, B ≤ i → i < w.heap.size → w'.heap[i]? = w.heap[i]?) : w'.ownsRow B e size v n xs := by
  refine ⟨h.1, ?_⟩
  rcases h.2 with hn | ⟨g, cap, cur, hv, hB', hg, rest⟩
  · exact .inl hn
  · exact .inr ⟨g, cap, cur, hv, hB', (hb g hB' (Array.getElem?_eq_some_iff.1 hg).1).trans hg, rest⟩

/-- What holds of blocks from B on but one. -/
def NewX (B : Nat) (og : Option Nat) (P : World → Prop) (w : World) : Prop := ∀ w' : World, w.heap.size ≤ w'.heap.size → (∀ i, B ≤ i → i < w.heap.size → some i ≠ og → w'.heap[i]? = w.heap[i]?) → P w'
theorem NewX.of {B B' : Nat} {og : Option Nat} {P : World → Prop} {w : World} (h : New B' P w) (hB : B ≤ B') (ho : ∀ k, og = some k → k < B') : NewX B og P w :=
  fun w2 h1 h2 => h w2 h1 fun i h3 h4 => h2 i (Nat.le_trans hB h3) h4 (fun e => by have := ho i e.symm; omega)
theorem NewX.on {B : Nat} {og : Option Nat} {P : World → Prop} {w w' : World} (h : NewX B og P w) (hs : w.heap.size ≤ w'.heap.size) (hb : ∀ i, B ≤ i → i < w.heap.size → some i ≠ og → w'.heap[i]? = w.heap[i]?) : NewX B og P w' :=
  fun w2 h1 h2 => h w2 (Nat.le_trans hs h1) fun i h3 h4 h5 => (h2 i h3 (Nat.lt_of_lt_of_le h4 hs) h5).trans (hb i h3 h4 h5)
theorem NewX.move {B : Nat} {og og' : Option Nat} {P : World → Prop} {w w' : World} (h : NewX B og P w) (hs : w.heap.size ≤ w'.heap.size) (hb : ∀ i, B ≤ i → i < w.heap.size → some i ≠ og → w'.heap[i]? = w.heap[i]?) (ho : og' = og ∨ ∃ n, og' = some n ∧ w.heap.size ≤ n) : NewX B og' P w' :=
  fun w2 h1 h2 => h w2 (Nat.le_trans hs h1) fun i h3 h4 h5 => (h2 i h3 (Nat.lt_of_lt_of_le h4 hs) (by
    rcases ho with rfl | ⟨n, rfl, hn⟩
    · exact h5
    · intro e
      have := Option.some.inj e
      omega)).trans (hb i h3 h4 h5)

/-- A row of fields from block B on; their subfields lie in new blocks besides. -/
def FN (B : Nat) (v : Value) (L : List Fld) (w : World) : Prop :=
  ∃ us : List Value, us.length = L.length ∧ w.ownsRow B 43 4 v L.length (cellsF L us) ∧ ∀ i, i < L.length → NewX B v.ownBlock (QL (us.getD i .nilIface) (L.getD i fd0).subs) w
theorem FN.nil (B : Nat) (w : World) : FN B (.slice none 0 0) [] w := ⟨[], rfl, World.ownsRow_nil _ _ _ _, fun i hi => by cases hi⟩
theorem FN.on {B : Nat} {v : Value} {L : List Fld} {w w' : World} (h : FN B v L w) (hs : w.heap.size ≤ w'.heap.size) (hb : ∀ i, B ≤ i → i < w.heap.size → w'.heap[i]? = w.heap[i]?) : FN B v L w' := by
  obtain ⟨us, h1, h2, h3⟩ := h
  exact ⟨us, h1, own_same h2 hb, fun i hi => (h3 i hi).on hs (fun j hj hk _ => hb j hj hk)⟩
theorem FN.fl {B : Nat} {v : Value} {L : List Fld} {w : World} (h : FN B v L w) : FL v L w := by
  obtain ⟨us, hl, hown, hq⟩ := h
  rcases hown.2 with ⟨rfl, h0⟩ | ⟨g, cap, cur, rfl, hb, hg, hc, hm, hs, ht⟩
  · have : L = [] := List.eq_nil_of_length_eq_zero h0
    subst this
    exact ⟨none, 0, rfl, Nat.le_refl _, Nat.zero_le _, fun _ => rfl, fun i hi => by cases hi⟩
  · have hadd : ∀ j, (⟨g, 0, none⟩ : Addr).add j = ⟨g, j, none⟩ := fun j => by unfold Addr.add; split <;> simp_all
    refine ⟨_, cap, rfl, hc, hm, (fun h => by cases h), fun i hi => ?_⟩
    have hcc := cellsF_at L us i hl hi
    have t0 := hown.cells (g := g) rfl _ _ hcc.1
    have t1 := hown.cells (g := g) rfl _ _ hcc.2.1
    have t2 := hown.cells (g := g) rfl _ _ hcc.2.2.1
    have t3 := hown.cells (g := g) rfl _ _ hcc.2.2.2
    rw [hadd] at t0 t1 t2 t3
    refine ⟨g, 0, us.getD i .nilIface, rfl, (Array.getElem?_eq_some_iff.1 hg).1, ?_⟩
    rw [Nat.zero_add]
    exact ⟨t0, t1, t2, t3, (hq i hi) w (Nat.le_refl _) (fun _ _ _ _ => rfl)⟩
theorem FN.new {B : Nat} {v : Value} {L : List Fld} {w : World} (h : FN B v L w) : New B (FL v L) w := fun _ hs hb => (h.on hs hb).fl
/-- What the walk needs for an append, and the longer row. -/
theorem FN.open {B : Nat} {v : Value} {L : List Fld} {w : World} (h : FN B v L w) :
    ∃ xs : List Value, w.ownsRow B 43 4 v L.length xs ∧ ∀ (f : Fld) (u v' : Value) (w' : World), NewX B v.ownBlock (QL u f.subs) w → w.grownBy w' v.ownBlock → (v'.ownBlock = v.ownBlock ∨ v'.ownBlock = some w.heap.size) →
      w'.ownsRow B 43 4 v' (L.length + 1) (xs ++ encF f u) → FN B v' (L ++ [f]) w' := by
  obtain ⟨us, hl, hown, hq⟩ := h
  refine ⟨_, hown, fun f u v' w' hu hg hb hown' => ⟨us ++ [u], by rw [List.length_append, List.length_append, hl]; rfl, ?_, fun i hi => ?_⟩⟩
  · rw [cellsF_snoc L us f u hl, List.length_append]
    exact hown'
  · have hmv : ∀ {P : World → Prop}, NewX B v.ownBlock P w → NewX B v'.ownBlock P w' := fun hp => hp.move hg.size (fun j _ hk hne => hg.block j hk hne) (hb.imp id fun h => ⟨_, h, Nat.le_refl _⟩)
    rw [getD_app, getD_appF, hl]
    by_cases h1 : i < L.length
    · rw [if_pos h1, if_pos h1]; exact hmv (hq i h1)
    · have : i = L.length := by rw [List.length_append] at hi; simp at hi; omega
      subst this
      rw [if_neg h1, if_neg h1, Nat.sub_self]
      exact hmv hu

/-- A slice of these records. -/
def RL (v : Value) (L : List Rec) (w : World) : Prop :=
  ∃ a cap, v = .slice a L.length cap ∧ L.length ≤ cap ∧ cap ≤ maxLen ∧ (a = none → cap = 0) ∧ ∀ i, i < L.length → ∃ g o u, a = some ⟨g, o, none⟩ ∧ g < w.heap.size ∧
    w.cell? ⟨g, o + i * 5, none⟩ = some (.int .i64 (L.getD i rec0).id) ∧ w.cell? ⟨g, o + i * 5 + 1, none⟩ = some (.int .i64 (L.getD i rec0).ver) ∧ w.cell? ⟨g, o + i * 5 + 2, none⟩ = some (.int .i64 (L.getD i rec0).kind) ∧
    w.cell? ⟨g, o + i * 5 + 3, none⟩ = some (.string (S (L.getD i rec0).lang)) ∧ w.cell? ⟨g, o + i * 5 + 4, none⟩ = some u ∧ FL u (L.getD i rec0).fields w
theorem RL.nil (w : World) : RL (.slice none 0 0) [] w := ⟨none, 0, rfl, Nat.le_refl _, Nat.zero_le _, fun _ => rfl, fun i hi => by cases hi⟩
theorem RL.after {v : Value} {L : List Rec} {w w' : World} (h : RL v L w) (hb : Below w.heap.size w w') : RL v L w' := by
  obtain ⟨a, cap, rfl, hc, hm, hn, hx⟩ := h
  refine ⟨a, cap, rfl, hc, hm, hn, fun i hi => ?_⟩
  obtain ⟨g, o, u, rfl, hg, h0, h1, h2, h3, h4, hq⟩ := hx i hi
  exact ⟨g, o, u, rfl, Nat.lt_of_lt_of_le hg hb.size, (hb.cell (p := ⟨g, o + i * 5, none⟩) hg).trans h0, (hb.cell (p := ⟨g, o + i * 5 + 1, none⟩) hg).trans h1,
    (hb.cell (p := ⟨g, o + i * 5 + 2, none⟩) hg).trans h2, (hb.cell (p := ⟨g, o + i * 5 + 3, none⟩) hg).trans h3, (hb.cell (p := ⟨g, o + i * 5 + 4, none⟩) hg).trans h4, hq.after hb⟩
theorem RL.length {v : Value} {L : List Rec} {w : World} (h : RL v L w) : ∃ a cap, v = .slice a L.length cap ∧ L.length ≤ cap ∧ cap ≤ maxLen := by
  obtain ⟨a, cap, h1, h2, h3, _⟩ := h
  exact ⟨a, cap, h1, h2, h3⟩
theorem RL.at {v : Value} {L : List Rec} {w : World} (h : RL v L w) (k : Nat) (hk : k < L.length) : ∃ g o cap u, v = .slice (some ⟨g, o, none⟩) L.length cap ∧ g < w.heap.size ∧
    w.cell? ⟨g, o + k * 5, none⟩ = some (.int .i64 (L.getD k rec0).id) ∧ w.cell? ⟨g, o + k * 5 + 1, none⟩ = some (.int .i64 (L.getD k rec0).ver) ∧ w.cell? ⟨g, o + k * 5 + 2, none⟩ = some (.int .i64 (L.getD k rec0).kind) ∧
    w.cell? ⟨g, o + k * 5 + 3, none⟩ = some (.string (S (L.getD k rec0).lang)) ∧ w.cell? ⟨g, o + k * 5 + 4, none⟩ = some u ∧ FL u (L.getD k rec0).fields w := by
  obtain ⟨a, cap, rfl, hc, hm, hn, hx⟩ := h
  obtain ⟨g, o, u, rfl, hh⟩ := hx k hk
  exact ⟨g, o, cap, u, rfl, hh⟩

/-! Rows of the call's own. -/
def encR (r : Rec) (u : Value) : List Value := [.int .i64 r.id, .int .i64 r.ver, .int .i64 r.kind, .string (S r.lang), u]
def cellsR : List Rec → List Value → List Value
  | r :: t, u :: us => encR r u ++ cellsR t us
  | _, _ => []
theorem cellsR_app : ∀ (L : List Rec) (us : List Value) (M : List Rec) (vs : List Value), us.length = L.length → cellsR (L ++ M) (us ++ vs) = cellsR L us ++ cellsR M vs
  | [], [], M, vs, _ => by simp [cellsR]
  | a :: s, x :: xs, M, vs, h => by
    have := cellsR_app s xs M vs (by simpa using h)
    simp only [List.cons_append, cellsR, this, List.append_assoc]
theorem cellsR_snoc (L : List Rec) (us : List Value) (f : Rec) (u : Value) (h : us.length = L.length) : cellsR (L ++ [f]) (us ++ [u]) = cellsR L us ++ encR f u := by
  rw [cellsR_app L us [f] [u] h]
  simp [cellsR]
theorem cellsR_at : ∀ (L : List Rec) (us : List Value) (i : Nat), us.length = L.length → i < L.length → (cellsR L us)[i * 5]? = some (.int .i64 (L.getD i rec0).id) ∧ (cellsR L us)[i * 5 + 1]? = some (.int .i64 (L.getD i rec0).ver) ∧
    (cellsR L us)[i * 5 + 2]? = some (.int .i64 (L.getD i rec0).kind) ∧ (cellsR L us)[i * 5 + 3]? = some (.string (S (L.getD i rec0).lang)) ∧ (cellsR L us)[i * 5 + 4]? = some (us.getD i .nilIface)
  | [], _, _, _, h => by cases h
  | a :: s, x :: xs, 0, _, _ => ⟨rfl, rfl, rfl, rfl, rfl⟩
  | a :: s, x :: xs, i + 1, hl, h => by
    have := cellsR_at s xs i (by simpa using hl) (by simpa using h)
    have e : cellsR (a :: s) (x :: xs) = .int .i64 a.id :: .int .i64 a.ver :: .int .i64 a.kind :: .string (S a.lang) :: x :: cellsR s xs := rfl
    rw [e, show (i + 1) * 5 = i * 5 + 1 + 1 + 1 + 1 + 1 by omega]
    simp only [List.getElem?_cons_succ]
    exact this
theorem cellsR_length : ∀ (L : List Rec) (us : List Value), us.length = L.length → (cellsR L us).length = L.length * 5
  | [], _, _ => by simp [cellsR]
  | f :: t, u :: us, h => by
    have := cellsR_length t us (by simpa using h)
    simp only [cellsR, List.length_append, this, encR, List.length_cons, List.length_nil]
    omega
theorem cellsR_news {g : Nat} {w : World} : ∀ (L : List Rec) (us : List Value) (o : Nat), us.length = L.length →
    (∀ i, i < L.length → w.cell? ⟨g, o + i * 5, none⟩ = some (.int .i64 (L.getD i rec0).id) ∧ w.cell? ⟨g, o + i * 5 + 1, none⟩ = some (.int .i64 (L.getD i rec0).ver) ∧ w.cell? ⟨g, o + i * 5 + 2, none⟩ = some (.int .i64 (L.getD i rec0).kind) ∧
      w.cell? ⟨g, o + i * 5 + 3, none⟩ = some (.string (S (L.getD i rec0).lang)) ∧ w.cell? ⟨g, o + i * 5 + 4, none⟩ = some (us.getD i .nilIface)) →
    ∀ j u, (cellsR L us)[j]? = some u → w.cell? ⟨g, o + j, none⟩ = some u
  | [], _, _, _, _, j, u, hu => by simp [cellsR] at hu
  | f :: t, x :: xs, o, hl, h, j, u, hu => by
    have e : cellsR (f :: t) (x :: xs) = .int .i64 f.id :: .int .i64 f.ver :: .int .i64 f.kind :: .string (S f.lang) :: x :: cellsR t xs := rfl
    rw [e] at hu
    have h0 := h 0 (by simp)
    match j, hu with
    | 0, hu => simp at hu; subst hu; simpa using h0.1
    | 1, hu => simp at hu; subst hu; simpa using h0.2.1
    | 2, hu => simp at hu; subst hu; simpa using h0.2.2.1
    | 3, hu => simp at hu; subst hu; simpa using h0.2.2.2.1
    | 4, hu => simp at hu; subst hu; simpa using h0.2.2.2.2
    | j + 5, hu =>
      simp only [List.getElem?_cons_succ] at hu
      have := cellsR_news t xs (o + 5) (by simpa using hl) (fun i hi => by
        have := h (i + 1) (by simpa using hi)
        rw [show o + (i + 1) * 5 = o + 5 + i * 5 by omega] at this
        exact this) j u hu
      rwa [show o + 5 + j = o + (j + 5) by omega] at this
theorem FL.one {u : Value} {L : List Fld} {w : World} (h : FL u L w) : u.oneCell' = true := by
  obtain ⟨a, cap, rfl, _⟩ := h
  rfl
theorem encR_one (r : Rec) (u : Value) (h : u.oneCell' = true) : ∀ x ∈ encR r u, x.oneCell' = true := by
  intro x hx
  simp only [encR, List.mem_cons, List.not_mem_nil, or_false] at hx
  rcases hx with rfl | rfl | rfl | rfl | rfl
  · rfl
  · rfl
  · rfl
  · rfl
  · exact h
theorem cellsR_one : ∀ (L : List Rec) (us : List Value), (∀ u ∈ us, u.oneCell' = true) → ∀ u ∈ cellsR L us, u.oneCell' = true
  | [], _, _, u, hu => by simp [cellsR] at hu
  | f :: t, [], _, u, hu => by simp [cellsR] at hu
  | f :: t, x :: xs, h, u, hu => by
    rw [cellsR, List.mem_append] at hu
    rcases hu with hu | hu
    · exact encR_one f x (h x (by simp)) u hu
    · exact cellsR_one t xs (fun y hy => h y (List.mem_cons_of_mem _ hy)) u hu
theorem getD_appR (us vs : List Rec) (i : Nat) : (us ++ vs).getD i rec0 = if i < us.length then us.getD i rec0 else vs.getD (i - us.length) rec0 := by
  rw [List.getD_eq_getElem?_getD]
  by_cases h : i < us.length
  · rw [if_pos h, List.getElem?_append_left h, List.getD_eq_getElem?_getD]
  · rw [if_neg h, List.getElem?_append_right (by omega), List.getD_eq_getElem?_getD]
/-- A row whose nested rows are these is a slice of the records. -/
theorem row_rl {B : Nat} {v : Value} {L : List Rec} {us : List Value} {w : World} (hl : us.length = L.length) (hown : w.ownsRow B 24 5 v L.length (cellsR L us))
    (hq : ∀ i, i < L.length → FL (us.getD i .nilIface) (L.getD i rec0).fields w) : RL v L w := by
  rcases hown.2 with ⟨rfl, h0⟩ | ⟨g, cap, cur, rfl, hb, hg, hc, hm, hs, ht⟩
  · have : L = [] := List.eq_nil_of_length_eq_zero h0
    subst this
    exact RL.nil w
  · have hadd : ∀ j, (⟨g, 0, none⟩ : Addr).add j = ⟨g, j, none⟩ := fun j => by unfold Addr.add; split <;> simp_all
    refine ⟨_, cap, rfl, hc, hm, (fun h => by cases h), fun i hi => ?_⟩
    obtain ⟨h0, h1, h2, h3, h4⟩ := cellsR_at L us i hl hi
    have t0 := hown.cells (g := g) rfl _ _ h0
    have t1 := hown.cells (g := g) rfl _ _ h1
    have t2 := hown.cells (g := g) rfl _ _ h2
    have t3 := hown.cells (g := g) rfl _ _ h3
    have t4 := hown.cells (g := g) rfl _ _ h4
    rw [hadd] at t0 t1 t2 t3 t4
    refine ⟨g, 0, us.getD i .nilIface, rfl, (Array.getElem?_eq_some_iff.1 hg).1, ?_⟩
    rw [Nat.zero_add]
    exact ⟨t0, t1, t2, t3, t4, hq i hi⟩

/-- A row of records from block B on; their fields lie in new blocks besides. -/
def RN (B : Nat) (v : Value) (L : List Rec) (w : World) : Prop :=
  ∃ us : List Value, us.length = L.length ∧ w.ownsRow B 24 5 v L.length (cellsR L us) ∧ ∀ i, i < L.length → NewX B v.ownBlock (FL (us.getD i .nilIface) (L.getD i rec0).fields) w
theorem RN.nil (B : Nat) (w : World) : RN B (.slice none 0 0) [] w := ⟨[], rfl, World.ownsRow_nil _ _ _ _, fun i hi => by cases hi⟩
theorem RN.on {B : Nat} {v : Value} {L : List Rec} {w w' : World} (h : RN B v L w) (hs : w.heap.size ≤ w'.heap.size) (hb : ∀ i, B ≤ i → i < w.heap.size → w'.heap[i]? = w.heap[i]?) : RN B v L w' := by
  obtain ⟨us, h1, h2, h3⟩ := h
  exact ⟨us, h1, own_same h2 hb, fun i hi => (h3 i hi).on hs (fun j hj hk _ => hb j hj hk)⟩
theorem RN.after {B : Nat} {v : Value} {L : List Rec} {w w' : World} (h : RN B v L w) (hb : Below w.heap.size w w') : RN B v L w' := h.on hb.size fun i _ hi => hb.block i hi
theorem RN.rl {B : Nat} {v : Value} {L : List Rec} {w : World} (h : RN B v L w) : RL v L w := by
  obtain ⟨us, hl, hown, hq⟩ := h
  exact row_rl hl hown fun i hi => (hq i hi) w (Nat.le_refl _) (fun _ _ _ _ => rfl)
theorem RN.new {B : Nat} {v : Value} {L : List Rec} {w : World} (h : RN B v L w) : New B (RL v L) w := fun _ hs hb => (h.on hs hb).rl
theorem RN.open {B : Nat} {v : Value} {L : List Rec} {w : World} (h : RN B v L w) :
    ∃ xs : List Value, w.ownsRow B 24 5 v L.length xs ∧ ∀ (f : Rec) (u v' : Value) (w' : World), NewX B v.ownBlock (FL u f.fields) w → w.grownBy w' v.ownBlock → (v'.ownBlock = v.ownBlock ∨ v'.ownBlock = some w.heap.size) →
      w'.ownsRow B 24 5 v' (L.length + 1) (xs ++ encR f u) → RN B v' (L ++ [f]) w' := by
  obtain ⟨us, hl, hown, hq⟩ := h
  refine ⟨_, hown, fun f u v' w' hu hg hb hown' => ⟨us ++ [u], by rw [List.length_append, List.length_append, hl]; rfl, ?_, fun i hi => ?_⟩⟩
  · rw [cellsR_snoc L us f u hl, List.length_append]
    exact hown'
  · have hmv : ∀ {P : World → Prop}, NewX B v.ownBlock P w → NewX B v'.ownBlock P w' := fun hp => hp.move hg.size (fun j _ hk hne => hg.block j hk hne) (hb.imp id fun h => ⟨_, h, Nat.le_refl _⟩)
    rw [getD_app, getD_appR, hl]
    by_cases h1 : i < L.length
    · rw [if_pos h1, if_pos h1]; exact hmv (hq i h1)
    · have : i = L.length := by rw [List.length_append] at hi; simp at hi; omega
      subst this
      rw [if_neg h1, if_neg h1, Nat.sub_self]
      exact hmv hu

/-- A row of records of the call's own, from block B on, nil while it is empty; their fields lie in W0. -/
def RR (W0 : World) (B : Nat) (v : Value) (L : List Rec) (w : World) : Prop :=
  ∃ us : List Value, us.length = L.length ∧ w.ownsRow B 24 5 v L.length (cellsR L us) ∧ ∀ i, i < L.length → FL (us.getD i .nilIface) (L.getD i rec0).fields W0
theorem RR.nil (W0 w : World) (B : Nat) : RR W0 B (.slice none 0 0) [] w := ⟨[], rfl, World.ownsRow_nil _ _ _ _, fun i hi => by cases hi⟩
theorem RR.rl {W0 : World} {B : Nat} {v : Value} {L : List Rec} {w : World} (h : RR W0 B v L w) (hbel : Below W0.heap.size W0 w) : RL v L w := by
  obtain ⟨us, hl, hown, hq⟩ := h
  exact row_rl hl hown fun i hi => (hq i hi).after hbel
theorem RR.after {W0 : World} {B : Nat} {v : Value} {L : List Rec} {w w' : World} (h : RR W0 B v L w) (hb : Below w.heap.size w w') : RR W0 B v L w' := by
  obtain ⟨us, h1, h2, h3⟩ := h
  exact ⟨us, h1, own_after h2 hb, h3⟩
theorem RR.open {W0 : World} {B : Nat} {v : Value} {L : List Rec} {w : World} (h : RR W0 B v L w) :
    ∃ xs : List Value, w.ownsRow B 24 5 v L.length xs ∧ ∀ (M : List Rec) (vs : List Value) (v' : Value) (w' : World), vs.length = M.length → (∀ i, i < M.length → FL (vs.getD i .nilIface) (M.getD i rec0).fields W0) →
      w'.ownsRow B 24 5 v' (L.length + M.length) (xs ++ cellsR M vs) → RR W0 B v' (L ++ M) w' := by
  obtain ⟨us, hl, hown, hq⟩ := h
  refine ⟨_, hown, fun M vs v' w' hvl hvq hown' => ⟨us ++ vs, by rw [List.length_append, List.length_append, hl, hvl], ?_, fun i hi => ?_⟩⟩
  · rw [cellsR_app L us M vs hl, List.length_append]
    exact hown'
  · rw [getD_app, getD_appR, hl]
    by_cases h1 : i < L.length
    · rw [if_pos h1, if_pos h1]; exact hq i h1
    · rw [if_neg h1, if_neg h1]; exact hvq _ (by rw [List.length_append] at hi; omega)
/-- The fields' values of a slice of records. -/
theorem RL.vals {v : Value} {L : List Rec} {w : World} (h : RL v L w) : ∃ (a : Option Addr) (cap : Nat) (us : List Value), v = .slice a L.length cap ∧ L.length ≤ cap ∧ cap ≤ maxLen ∧ (a = none → cap = 0) ∧ us.length = L.length ∧ (∀ i, i < L.length → FL (us.getD i .nilIface) (L.getD i rec0).fields w) ∧
    ∀ g o s, a = some ⟨g, o, s⟩ → L ≠ [] → s = none ∧ g < w.heap.size ∧ ∀ j u, (cellsR L us)[j]? = some u → w.cell? ⟨g, o + j, none⟩ = some u := by
  obtain ⟨a, cap, rfl, hc, hm, hn, hx⟩ := h
  have hch : ∀ i, ∃ u, i < L.length → ∃ g o, a = some ⟨g, o, none⟩ ∧ g < w.heap.size ∧ (w.cell? ⟨g, o + i * 5, none⟩ = some (.int .i64 (L.getD i rec0).id) ∧ w.cell? ⟨g, o + i * 5 + 1, none⟩ = some (.int .i64 (L.getD i rec0).ver) ∧ w.cell? ⟨g, o + i * 5 + 2, none⟩ = some (.int .i64 (L.getD i rec0).kind) ∧
      w.cell? ⟨g, o + i * 5 + 3, none⟩ = some (.string (S (L.getD i rec0).lang)) ∧ w.cell? ⟨g, o + i * 5 + 4, none⟩ = some u) ∧ FL u (L.getD i rec0).fields w := by
    intro i
    by_cases hi : i < L.length
    · obtain ⟨g, o, u, h1, hg, h0, h2, h3, h4, h5, hq⟩ := hx i hi
      exact ⟨u, fun _ => ⟨g, o, h1, hg, ⟨h0, h2, h3, h4, h5⟩, hq⟩⟩
    · exact ⟨.nilIface, fun h => absurd h hi⟩
  obtain ⟨F, hF⟩ : ∃ F : Nat → Value, ∀ i, i < L.length → ∃ g o, a = some ⟨g, o, none⟩ ∧ g < w.heap.size ∧ (w.cell? ⟨g, o + i * 5, none⟩ = some (.int .i64 (L.getD i rec0).id) ∧ w.cell? ⟨g, o + i * 5 + 1, none⟩ = some (.int .i64 (L.getD i rec0).ver) ∧ w.cell? ⟨g, o + i * 5 + 2, none⟩ = some (.int .i64 (L.getD i rec0).kind) ∧
      w.cell? ⟨g, o + i * 5 + 3, none⟩ = some (.string (S (L.getD i rec0).lang)) ∧ w.cell? ⟨g, o + i * 5 + 4, none⟩ = some (F i)) ∧ FL (F i) (L.getD i rec0).fields w := ⟨fun i => Classical.choose (hch i), fun i => Classical.choose_spec (hch i)⟩
  have hg : ∀ i, i < L.length → ((List.range L.length).map F).getD i .nilIface = F i := fun i hi => by
    rw [List.getD_eq_getElem?_getD, List.getElem?_map, List.getElem?_range hi]
    simp
  refine ⟨a, cap, (List.range L.length).map F, rfl, hc, hm, hn, by simp, fun i hi => ?_, fun g o s ha hne => ?_⟩
  · rw [hg i hi]
    obtain ⟨g, o, _, _, _, hq⟩ := hF i hi
    exact hq
  · have h0 : 0 < L.length := List.length_pos_iff.2 hne
    obtain ⟨g', o', h1, h2, _⟩ := hF 0 h0
    rw [h1] at ha
    obtain ⟨rfl, rfl, rfl⟩ : g' = g ∧ o' = o ∧ none = s := by
      have := Option.some.inj ha
      injection this with a1 a2 a3
      exact ⟨a1, a2, a3⟩
    refine ⟨rfl, h2, cellsR_news L _ _ (by simp) fun i hi => ?_⟩
    obtain ⟨g2, o2, h3, _, h5, _⟩ := hF i hi
    rw [h1] at h3
    have := Option.some.inj h3
    injection this with a1 a2 a3
    subst a1
    subst a2
    rw [hg i hi]
    exact h5
theorem infoRec : (Tryd.prog.info? 24).map (fun i => (i.zero, i.size, i.bytes)) = some (some (.agg #[.int .i64 0, .int .i64 0, .int .i64 0, .string ⟨#[]⟩, .slice none 0 0]), 5, 64) := by kernel_rfl
theorem info_rec : ∃ i0, Tryd.prog.info? 24 = some i0 ∧ i0.zero = some (.agg #[.int .i64 0, .int .i64 0, .int .i64 0, .string ⟨#[]⟩, .slice none 0 0]) ∧ i0.size = 5 ∧ i0.bytes = 64 := by
  obtain ⟨i0, h0, h2⟩ := Option.map_eq_some_iff.1 infoRec
  simp only [Prod.mk.injEq] at h2
  exact ⟨i0, h0, h2.1, h2.2.1, h2.2.2⟩
theorem cells_five (w : World) (a b c d e : Value) (t : TypeId) : ∀ j u, [a, b, c, d, e][j]? = some u → (w.alloc (.cells #[a, b, c, d, e] t)).cell? ((⟨w.heap.size, 0, none⟩ : Addr).add j) = some u := by
  intro j u hj
  match j, hj with
  | 0, hj => simp at hj; subst hj; simp [Addr.add]
  | 1, hj => simp at hj; subst hj; simp [Addr.add]
  | 2, hj => simp at hj; subst hj; simp [Addr.add]
  | 3, hj => simp at hj; subst hj; simp [Addr.add]
  | 4, hj => simp at hj; subst hj; simp [Addr.add]
  | (j + 5), hj => simp at hj
def RCells (N : Nat) (id ver kind : Int) (lang : ByteArray) (fv : Value) (wr : World) : Prop :=
  (wr.cell? ⟨N, 0, none⟩ = some (.int .i64 id) ∧ wr.cell? ⟨N, 1, none⟩ = some (.int .i64 ver) ∧ wr.cell? ⟨N, 2, none⟩ = some (.int .i64 kind) ∧ wr.cell? ⟨N, 3, none⟩ = some (.string lang) ∧ wr.cell? ⟨N, 4, none⟩ = some fv) ∧
  (wr.frozen? ⟨N, 0, none⟩ = false ∧ wr.frozen? ⟨N, 1, none⟩ = false ∧ wr.frozen? ⟨N, 2, none⟩ = false ∧ wr.frozen? ⟨N, 3, none⟩ = false ∧ wr.frozen? ⟨N, 4, none⟩ = false)
theorem rcells {N : Nat} {id ver kind : Int} {lang : ByteArray} {fv : Value} {wr : World} (h : wr.heap[N]? = some (.cells #[.int .i64 id, .int .i64 ver, .int .i64 kind, .string lang, fv] 24 (0, 0))) : RCells N id ver kind lang fv wr := by
  refine ⟨⟨?_, ?_, ?_, ?_, ?_⟩, Lib.frozen_of_heap h 0, Lib.frozen_of_heap h 1, Lib.frozen_of_heap h 2, Lib.frozen_of_heap h 3, Lib.frozen_of_heap h 4⟩ <;> (rw [Lib.cell_of_heap h]; rfl)
theorem results_row_tmp10 {P : Program} {fn : Func} {p u : Tmp} {ty : TypeId} (h : fn.results = #[.cell p ty, .tmp u]) (tmps : Array Value) (w : World) (g : Nat) (t : TypeId) (cs : Array Value) (fr : Nat × Nat) (d : TypeDesc)
    (hp : tmps.getD p undef = .pointer (some ⟨g, 0, none⟩)) (hg : w.heap[g]? = some (.cells cs t fr))
    (hu : P.underlying ty = some d) (hd : (match d with | .struct _ | .array _ _ => true | _ => false) = true) (hi : (P.info? ty).map (·.size) = some cs.size) :
    (results fn tmps).run P w = .ok (.tuple #[.agg cs, tmps.getD u undef]) w := by
  rw [results_cell_tmp h, hp]
  simp [asAddr, run_loadVar_row w g t ty cs fr d hg hu hd hi, Result.andThen]
/-- A record stored in its box. -/
def setR5 (w : World) (b : Nat) (x0 x1 x2 x3 x4 : Value) : World := ((((w.setCell ⟨b, 0, none⟩ x0).setCell ⟨b, 1, none⟩ x1).setCell ⟨b, 2, none⟩ x2).setCell ⟨b, 3, none⟩ x3).setCell ⟨b, 4, none⟩ x4
theorem rec_set5 {w : World} {b : Nat} {c0 c1 c2 c3 c4 x0 x1 x2 x3 x4 : Value} (h : w.heap[b]? = some (.cells #[c0, c1, c2, c3, c4] 24 (0, 0))) :
    (setR5 w b x0 x1 x2 x3 x4).heap[b]? = some (.cells #[x0, x1, x2, x3, x4] 24 (0, 0)) := by
  simp [setR5, World.setCell, Array.getElem?_modify, h]
theorem rec_other {w : World} {b : Nat} {x0 x1 x2 x3 x4 : Value} (i : Nat) (h : i ≠ b) : (setR5 w b x0 x1 x2 x3 x4).heap[i]? = w.heap[i]? := by
  unfold setR5
  rw [heap_setn _ _ _ _ (by exact h), heap_setn _ _ _ _ (by exact h), heap_setn _ _ _ _ (by exact h), heap_setn _ _ _ _ (by exact h), heap_setn _ _ _ _ (by exact h)]
theorem rec_below {w W : World} {b : Nat} {x0 x1 x2 x3 x4 : Value} (h : Below b w W) : Below b w (setR5 W b x0 x1 x2 x3 x4) :=
  ((((h.setCell (p := ⟨b, 0, none⟩) (Nat.le_refl _) x0).setCell (p := ⟨b, 1, none⟩) (Nat.le_refl _) x1).setCell (p := ⟨b, 2, none⟩) (Nat.le_refl _) x2).setCell (p := ⟨b, 3, none⟩) (Nat.le_refl _) x3).setCell (p := ⟨b, 4, none⟩) (Nat.le_refl _) x4
theorem rec_size {w : World} {b : Nat} {x0 x1 x2 x3 x4 : Value} : (setR5 w b x0 x1 x2 x3 x4).heap.size = w.heap.size := by simp [setR5, World.setCell]
theorem fl_none (B : Nat) (w : World) : New B (FL (.slice none 0 0) []) w := fun _ _ _ => ⟨none, 0, rfl, Nat.le_refl _, Nat.zero_le _, fun _ => rfl, fun i hi => by cases hi⟩
end

section
open Go.RowKit Go.PlainAid
theorem blank_cons (c : UInt8) (t : List UInt8) : blankI (c :: t) = if c = 32 then 0 else blankI t + 1 := by
  unfold blankI
  rw [List.takeWhile_cons]
  by_cases h : c = 32
  · rw [if_pos h, if_neg (by simp [h])]; rfl
  · rw [if_neg h, if_pos (by simpa using h)]; rfl
theorem blank_le : ∀ l : List UInt8, blankI l ≤ l.length
  | [] => Nat.le_refl _
  | c :: t => by
    have := blank_le t
    rw [blank_cons, List.length_cons]
    split <;> omega
theorem blank_lt : ∀ (l : List UInt8) (k : Nat), k < blankI l → l.getD k 0 ≠ 32
  | [], k, h => by cases h
  | c :: t, k, h => by
    rw [blank_cons] at h
    by_cases hc : c = 32
    · rw [if_pos hc] at h; omega
    · rw [if_neg hc] at h
      cases k with
      | zero => exact hc
      | succ k => exact blank_lt t k (by omega)
theorem blank_at : ∀ (l : List UInt8), blankI l < l.length → l.getD (blankI l) 0 = 32
  | [], h => by cases h
  | c :: t, h => by
    rw [blank_cons] at h ⊢
    by_cases hc : c = 32
    · rw [if_pos hc]; exact hc
    · rw [if_neg hc] at h ⊢
      rw [List.length_cons] at h
      exact blank_at t (by omega)
def hdrV (l : List UInt8) : Rec × Bool := match hdrO l with
  | some r => (r, true)
  | none => (rec0, false)
theorem hdrV_some (l : List UInt8) (r : Rec) (h : hdrO l = some r) : hdrV l = (r, true) := by unfold hdrV; rw [h]
theorem hdrV_none (l : List UInt8) (h : hdrO l = none) : hdrV l = (rec0, false) := by unfold hdrV; rw [h]
theorem numO_lt (l : List UInt8) (n : Nat) (h : numO l = some n) : n < 1000000000 := by
  unfold numO at h
  by_cases h0 : l.length < 1 ∨ 9 < l.length ∨ (l.getD 0 0 = 48 ∧ 1 < l.length)
  · rw [if_pos h0] at h; cases h
  rw [if_neg h0] at h
  by_cases h1 : l.all digB = true
  · rw [if_pos h1] at h
    obtain rfl := Option.some.inj h
    have := valN_lt l.length l ((allN_iff l).1 h1) (Nat.le_refl _)
    rw [List.take_length] at this
    exact Nat.lt_of_lt_of_le this (Nat.le_trans (Nat.pow_le_pow_right (by decide) (show l.length ≤ 9 by omega)) (by decide))
  · rw [if_neg h1] at h; cases h
def okC (l : List UInt8) (n : Nat) (c : Int × Int) : Prop := rightRI ⟨n, c.1, c.2, l.drop (l.length - 3), []⟩ = 0 ∧ hdrX n c.1 c.2 (l.drop (l.length - 3)) = l
theorem hdrO_bad (l : List UInt8) (h : blankI l < 2 ∨ l.length < blankI l + 4 ∨ l.getD 0 0 ≠ 61) : hdrO l = none := by unfold hdrO; rw [if_pos h]
theorem hdrO_num (l : List UInt8) (h : numO ((l.drop 1).take (blankI l - 1)) = none) : hdrO l = none := by
  unfold hdrO
  split
  · rfl
  · rw [h]
theorem hdrO_miss (l : List UInt8) (n : Nat) (hn : numO ((l.drop 1).take (blankI l - 1)) = some n) (h : ∀ c ∈ cands, ¬ okC l n c) : hdrO l = none := by
  unfold hdrO
  split
  · rfl
  · rw [hn]
    show Option.map _ _ = none
    rw [Option.map_eq_none_iff]
    refine List.find?_eq_none.2 fun c hc => ?_
    have := h c hc
    unfold okC at this
    simpa using this
theorem hdrO_hit (l : List UInt8) (n : Nat) (c : Int × Int) (h : okC l n c) : hdrO l = some ⟨n, c.1, c.2, l.drop (l.length - 3), []⟩ := by
  have := hdrO_back ⟨n, c.1, c.2, l.drop (l.length - 3), []⟩ h.1 rfl
  rw [show hdrR ⟨n, c.1, c.2, l.drop (l.length - 3), []⟩ = l from h.2] at this
  exact this
theorem cands_bound : ∀ c ∈ cands, 1 ≤ c.1 ∧ c.1 ≤ 3 ∧ 1 ≤ c.2 ∧ c.2 ≤ 4 := by decide
end

end Go.Proofs.YtnfallkeicehiaaDoor
