/- Merged: GD10, GE10, GF10. -/
import Derived.Test.YtiledacfdaenbaaDoorQ21
namespace Go.Proofs.YtiledacfdaenbaaDoor

section
open Go.RowKit Go.PlainAid
/-- What holds of blocks from B on but one. -/
def NewX (B : Nat) (og : Option Nat) (P : World → Prop) (w : World) : Prop := ∀ w' : World, w.heap.size ≤ w'.heap.size → (∀ i, B ≤ i → i < w.heap.size → some i ≠ og → w'.heap[i]? = w.heap[i]?) → P w'
theorem NewX.of {B B' : Nat} {og : Option Nat} {P : World → Prop} {w : World} (h : New B' P w) (hB : B ≤ B') (ho : ∀ k, og = some k → k < B') : NewX B og P w :=
  fun w2 h1 h2 => h w2 h1 fun i h3 h4 => h2 i (Nat.le_trans hB h3) h4 (fun e => by have := ho i e.symm; omega)
theorem NewX.on {B : Nat} {og : Option Nat} {P : World → Prop} {w w' : World} (h : NewX B og P w) (hs : w.heap.size ≤ w'.heap.size) (hb : ∀ i, B ≤ i → i < w.heap.size → some i ≠ og → w'.heap[i]? = w.heap[i]?) : NewX B og P w' :=
  fun w2 h1 h2 => h w2 (Nat.le_trans hs h1) fun i h3 h4 h5 => (h2 i h3 (Nat.lt_of_lt_of_le h4 hs) h5).trans (hb i h3 h4 h5)
theorem NewX.move {B : Nat} {og og' : Option Nat} {P : World → Prop} {w w' : World} (h : NewX B og P w) (hs : w.heap.size ≤ w'.heap.size) (hb : ∀ i, B ≤ i → i < w.heap.size → some i ≠ og → w'.heap[i]? = w.heap[i]?) (ho : og' = og ∨ ∃ n, og' = some n ∧ w.heap.size ≤ n) : NewX B og' P w' :=
  fun w2 h1 h2 => h w2 (Nat.le_trans hs h1) fun i h3 h4 h5 => (h2 i h3 (Nat.lt_of_lt_of_le h4 hs) (by
    rcases ho with rfl | ⟨n, rfl, hn⟩
    · exact h5
    · intro e
      have := Option.some.inj e
      omega)).trans (hb i h3 h4 h5)

/-- A row of fields from block B on; their subfields lie in new blocks besides. -/
def FN (B : Nat) (v : Value) (L : List Fld) (w : World) : Prop :=
  ∃ us : List Value, us.length = L.length ∧ w.ownsRow B 49 4 v L.length (cellsF L us) ∧ ∀ i, i < L.length → NewX B v.ownBlock (QL (us.getD i .nilIface) (L.getD i fd0).subs) w
theorem FN.nil (B : Nat) (w : World) : FN B (.slice none 0 0) [] w := ⟨[], rfl, World.ownsRow_nil _ _ _ _, fun i hi => by cases hi⟩
theorem FN.on {B : Nat} {v : Value} {L : List Fld} {w w' : World} (h : FN B v L w) (hs : w.heap.size ≤ w'.heap.size) (hb : ∀ i, B ≤ i → i < w.heap.size → w'.heap[i]? = w.heap[i]?) : FN B v L w' := by
  obtain ⟨us, h1, h2, h3⟩ := h
  exact ⟨us, h1, own_same h2 hb, fun i hi => (h3 i hi).on hs (fun j hj hk _ => hb j hj hk)⟩
theorem FN.fl {B : Nat} {v : Value} {L : List Fld} {w : World} (h : FN B v L w) : FL v L w := by
  obtain ⟨us, hl, hown, hq⟩ := h
  rcases hown.2 with ⟨rfl, h0⟩ | ⟨g, cap, cur, rfl, hb, hg, hc, hm, hs, ht⟩
  · have : L = [] := List.eq_nil_of_length_eq_zero h0
    subst this
    exact ⟨none, 0, rfl, Nat.le_refl _, Nat.zero_le _, fun _ => rfl, fun i hi => by cases hi⟩
  · have hadd : ∀ j, (⟨g, 0, none⟩ : Addr).add j = ⟨g, j, none⟩ := fun j => by unfold Addr.add; split <;> simp_all
    refine ⟨_, cap, rfl, hc, hm, (fun h => by cases h), fun i hi => ?_⟩
    have hcc := cellsF_at L us i hl hi
    have t0 := hown.cells (g := g) rfl _ _ hcc.1
    have t1 := hown.cells (g := g) rfl _ _ hcc.2.1
    have t2 := hown.cells (g := g) rfl _ _ hcc.2.2.1
    have t3 := hown.cells (g := g) rfl _ _ hcc.2.2.2
    rw [hadd] at t0 t1 t2 t3
    refine ⟨g, 0, us.getD i .nilIface, rfl, (Array.getElem?_eq_some_iff.1 hg).1, ?_⟩
    rw [Nat.zero_add]
    exact ⟨t0, t1, t2, t3, (hq i hi) w (Nat.le_refl _) (fun _ _ _ _ => rfl)⟩
theorem FN.new {B : Nat} {v : Value} {L : List Fld} {w : World} (h : FN B v L w) : New B (FL v L) w := fun _ hs hb => (h.on hs hb).fl
/-- What the walk needs for an append, and the longer row. -/
theorem FN.open {B : Nat} {v : Value} {L : List Fld} {w : World} (h : FN B v L w) :
    ∃ xs : List Value, w.ownsRow B 49 4 v L.length xs ∧ ∀ (f : Fld) (u v' : Value) (w' : World), NewX B v.ownBlock (QL u f.subs) w → w.grownBy w' v.ownBlock → (v'.ownBlock = v.ownBlock ∨ v'.ownBlock = some w.heap.size) →
      w'.ownsRow B 49 4 v' (L.length + 1) (xs ++ encF f u) → FN B v' (L ++ [f]) w' := by
  obtain ⟨us, hl, hown, hq⟩ := h
  refine ⟨_, hown, fun f u v' w' hu hg hb hown' => ⟨us ++ [u], by rw [List.length_append, List.length_append, hl]; rfl, ?_, fun i hi => ?_⟩⟩
  · rw [cellsF_snoc L us f u hl, List.length_append]
    exact hown'
  · have hmv : ∀ {P : World → Prop}, NewX B v.ownBlock P w → NewX B v'.ownBlock P w' := fun hp => hp.move hg.size (fun j _ hk hne => hg.block j hk hne) (hb.imp id fun h => ⟨_, h, Nat.le_refl _⟩)
    rw [getD_app, getD_appF, hl]
    by_cases h1 : i < L.length
    · rw [if_pos h1, if_pos h1]; exact hmv (hq i h1)
    · have : i = L.length := by rw [List.length_append] at hi; simp at hi; omega
      subst this
      rw [if_neg h1, if_neg h1, Nat.sub_self]
      exact hmv hu

def numV (n : Nat) : Value := .int .i64 (n : Int)
/-- What lies in memory while the directory is read. -/
structure TS (w : World) (b : Nat) (rest : List UInt8) (tv sv : Value) (A : List (List UInt8)) (Z : List Nat) (wr : World) : Prop where
  rd : RD b rest wr
  lt : b < w.heap.size
  tags : wr.ownsRow w.heap.size 9 1 tv A.length (A.map strB)
  sizes : wr.ownsRow w.heap.size 3 1 sv Z.length (Z.map numV)
  ap : tv.ownBlock = none ∨ sv.ownBlock = none ∨ tv.ownBlock ≠ sv.ownBlock
  exc : Exc b w.heap.size w wr
theorem Ap.left {u v : Value} (h : u.ownBlock = none ∨ v.ownBlock = none ∨ u.ownBlock ≠ v.ownBlock) : u.ownBlock = none ∨ u.ownBlock ≠ v.ownBlock := by
  rcases h with h | h | h
  · exact .inl h
  · cases e : u.ownBlock with
    | none => exact .inl rfl
    | some x => exact .inr (by rw [h]; exact fun h => by cases h)
  · exact .inr h
theorem Ap.right {u v : Value} (h : u.ownBlock = none ∨ v.ownBlock = none ∨ u.ownBlock ≠ v.ownBlock) : v.ownBlock = none ∨ v.ownBlock ≠ u.ownBlock :=
  Ap.left (by
    rcases h with h | h | h
    · exact .inr (.inl h)
    · exact .inl h
    · exact .inr (.inr (Ne.symm h)))
section
variable {w wr w3 : World} {b : Nat} {rest : List UInt8} {tv sv : Value} {A : List (List UInt8)} {Z : List Nat}
theorem TS.setB (h : TS w b rest tv sv A Z wr) (m : List UInt8) : TS w b m tv sv A Z (wr.setCell ⟨b, 0, none⟩ (.string (S m))) :=
  ⟨h.rd.set m, h.lt, own_setCell h.tags (p := ⟨b, 0, none⟩) h.lt _, own_setCell h.sizes (p := ⟨b, 0, none⟩) h.lt _, h.ap, h.exc.trans (.setB _ _ _ _ _)⟩
theorem TS.size (h : TS w b rest tv sv A Z wr) : w.heap.size ≤ wr.heap.size := h.exc.size
theorem TS.pushTag (h : TS w b rest tv sv A Z wr) (o : Obj) (d : List UInt8) {tv' : Value} (hg : (wr.alloc o).grownBy w3 tv.ownBlock) (hb : tv'.ownBlock = tv.ownBlock ∨ tv'.ownBlock = some (wr.heap.size + 1))
    (ho : w3.ownsRow w.heap.size 9 1 tv' (A.length + 1) (A.map strB ++ [strB d])) : TS w b rest tv' sv (A ++ [d]) Z w3 := by
  have hl := h.rd.lt
  have hs := h.size
  have hta := h.tags.alloc o
  have hgl := fun k hk => (World.ownsRow.lt hta k hk).1
  have ha := own_apart (h.sizes.alloc o) hg (Ap.right h.ap) (by rw [show (wr.alloc o).heap.size = wr.heap.size + 1 by simp]; exact hb)
  refine ⟨h.rd.same ((hg.block b (by simp; omega) (fun e => by have := hgl _ e.symm; have := h.lt; omega)).trans (Below.heap_alloc _ _ _ hl)), h.lt, ?_, ha.1, ?_, (h.exc.alloc (Nat.le_of_lt h.lt) hs o).grown (Nat.le_of_lt h.lt) hg (by simp; omega) hgl⟩
  · rw [List.length_append, List.map_append]
    exact ho
  · rcases ha.2 with h1 | h1
    · exact .inr (.inl h1)
    · exact .inr (.inr (Ne.symm h1))
theorem TS.pushSize (h : TS w b rest tv sv A Z wr) (o : Obj) (n : Nat) {sv' : Value} (hg : (wr.alloc o).grownBy w3 sv.ownBlock) (hb : sv'.ownBlock = sv.ownBlock ∨ sv'.ownBlock = some (wr.heap.size + 1))
    (ho : w3.ownsRow w.heap.size 3 1 sv' (Z.length + 1) (Z.map numV ++ [numV n])) : TS w b rest tv sv' A (Z ++ [n]) w3 := by
  have hl := h.rd.lt
  have hs := h.size
  have hta := h.sizes.alloc o
  have hgl := fun k hk => (World.ownsRow.lt hta k hk).1
  have ha := own_apart (h.tags.alloc o) hg (Ap.left h.ap) (by rw [show (wr.alloc o).heap.size = wr.heap.size + 1 by simp]; exact hb)
  refine ⟨h.rd.same ((hg.block b (by simp; omega) (fun e => by have := hgl _ e.symm; have := h.lt; omega)).trans (Below.heap_alloc _ _ _ hl)), h.lt, ha.1, ?_, ?_, (h.exc.alloc (Nat.le_of_lt h.lt) hs o).grown (Nat.le_of_lt h.lt) hg (by simp; omega) hgl⟩
  · rw [List.length_append, List.map_append]
    exact ho
  · rcases ha.2 with h1 | h1
    · exact .inl h1
    · exact .inr (.inr h1)
end
/-- What lies in memory while the fields are read: the directory as it lay in W7, the fields from the end of W7 on. -/
structure FS (w : World) (b : Nat) (W7 : World) (rest : List UInt8) (fv : Value) (L : List Fld) (wr : World) : Prop where
  rd : RD b rest wr
  lt : b < w.heap.size
  le : w.heap.size ≤ W7.heap.size
  size : W7.heap.size ≤ wr.heap.size
  mid : ∀ i, w.heap.size ≤ i → i < W7.heap.size → wr.heap[i]? = W7.heap[i]?
  row : FN W7.heap.size fv L wr
  exc : Exc b w.heap.size w wr
section
variable {w W7 wr w3 : World} {b : Nat} {rest : List UInt8} {fv : Value} {L : List Fld}
theorem TS.fs {tv sv : Value} {A : List (List UInt8)} {Z : List Nat} (h : TS w b rest tv sv A Z W7) : FS w b W7 rest (.slice none 0 0) [] W7 :=
  ⟨h.rd, h.lt, h.size, Nat.le_refl _, fun _ _ _ => rfl, FN.nil _ _, h.exc⟩
theorem FS.setB (h : FS w b W7 rest fv L wr) (m : List UInt8) : FS w b W7 m fv L (wr.setCell ⟨b, 0, none⟩ (.string (S m))) := by
  have hb := h.lt
  have hl := h.le
  exact ⟨h.rd.set m, hb, hl, by simpa using h.size, fun i hi hj => (heap_set_ne wr _ _ _ (by show i ≠ b; omega)).trans (h.mid i hi hj), h.row.on (by simp) (fun i hi _ => heap_set_ne wr _ _ _ (by show i ≠ b; omega)), h.exc.trans (.setB _ _ _ _ _)⟩
/-- A call that keeps all old blocks but those of its own reader. -/
theorem FS.step (h : FS w b W7 rest fv L wr) (hx : Exc wr.heap.size wr.heap.size wr w3) : FS w b W7 rest fv L w3 := by
  have hl := h.rd.lt
  have hs := h.size
  have hk : ∀ i, i < wr.heap.size → w3.heap[i]? = wr.heap[i]? := fun i hi => hx.rest i hi (by omega)
  exact ⟨h.rd.same (hk b hl), h.lt, h.le, Nat.le_trans hs hx.size, fun i hi hj => (hk i (by omega)).trans (h.mid i hi hj), h.row.on hx.size (fun i _ hi => hk i hi), h.exc.trans (.of (hx.bel.mono h.exc.size) (Nat.le_of_lt h.lt))⟩
theorem FS.push (h : FS w b W7 rest fv L wr) (f : Fld) {fv' : Value} (hg : wr.grownBy w3 fv.ownBlock) (hf : FN W7.heap.size fv' (L ++ [f]) w3) : FS w b W7 rest fv' (L ++ [f]) w3 := by
  have hl := h.rd.lt
  have hs := h.size
  have h1 := h.le
  have hlt := h.lt
  obtain ⟨us, _, hown, _⟩ := h.row
  have hgl := fun k hk => (World.ownsRow.lt hown k hk).1
  exact ⟨h.rd.same (hg.block b hl (fun e => by have := hgl _ e.symm; omega)), hlt, h1, Nat.le_trans hs hg.size, fun i hi hj => (hg.block i (by omega) (fun e => by have := hgl _ e.symm; omega)).trans (h.mid i hi hj), hf, h.exc.grown (Nat.le_of_lt hlt) hg (by omega) (fun k hk => by have := hgl k hk; omega)⟩
end
/-- The bytes that a reader has left. -/
def lenC (b : Nat) (w : World) : Nat := match w.cell? ⟨b, 0, none⟩ with
  | some (.string s) => s.size
  | _ => 0
theorem RD.len {b : Nat} {l : List UInt8} {w : World} (h : RD b l w) : lenC b w = l.length := by
  unfold lenC
  rw [h.cell.1]
  exact S_size l
end

section
open Go.RowKit Go.PlainAid
/-- strings.HasPrefix at one byte. -/
theorem cPre1 (l : List UInt8) (c : UInt8) (b : Bool) (hb : Lib.hasPrefix l [c] = b) (w : World) :
    Calls Tryd.prog 67 #[.string (S l), .string (S [c])] w fun e w' => e = .returned (.bool b) ∧ w' = w := cPrefix l [c] b hb w
theorem infoInt10 : (Tryd.prog.info? 3).map (fun i => (i.zero, i.size, i.bytes)) = some (some (.int .i64 0), 1, 8) := by kernel_rfl
theorem info_int10 : ∃ i0, Tryd.prog.info? 3 = some i0 ∧ i0.zero = some (.int .i64 0) ∧ i0.size = 1 ∧ i0.bytes = 8 := by
  obtain ⟨i0, h0, h2⟩ := Option.map_eq_some_iff.1 infoInt10
  simp only [Prod.mk.injEq] at h2
  exact ⟨i0, h0, h2.1, h2.2.1, h2.2.2⟩
/-- What fields leaves. -/
def FsEnd (w : World) (b : Nat) (R : Option (List Fld)) (e : Ending) (w' : World) : Prop :=
  Exc b w.heap.size w w' ∧ ((R = none ∧ e = .panicked upV) ∨ ∃ F u, R = some F ∧ e = .returned u ∧ New w.heap.size (FL u F) w')
theorem dirE_end (l : List UInt8) (h : Lib.hasPrefix l [30] = true) : dirE l = some ([], l) := by rw [dirE, if_pos h]
theorem dirE_bad (l : List UInt8) (h : Lib.hasPrefix l [30] = false) (h2 : l.length < 12 ∨ numOk (l.drop 3) 4 = false) : dirE l = none := by
  rw [dirE, if_neg (by rw [h]; intro g; cases g), dif_pos h2]
theorem dirE_go (l : List UInt8) (h : Lib.hasPrefix l [30] = false) (h2 : ¬ (l.length < 12 ∨ numOk (l.drop 3) 4 = false)) : dirE l = (dirE (l.drop 12)).map fun x => ((l.take 3, numOf (l.drop 3) 4) :: x.1, x.2) := by
  rw [dirE, if_neg (by rw [h]; intro g; cases g), dif_neg h2]
  rfl
theorem pre_len (l : List UInt8) (h : Lib.hasPrefix l [30] = true) : 1 ≤ l.length := by
  cases l with
  | nil => cases h
  | cons x t => simp

/-- What lies at one place of a row of plain cells. -/
theorem own_at {w : World} {B e n c : Nat} {a : Option Addr} {xs : List Value} (h : w.ownsRow B e 1 (.slice a n c) n xs) (k : Nat) (hk : k < n) (x : Value) (hx : xs[k]? = some x) :
    ∃ g, a = some ⟨g, 0, none⟩ ∧ B ≤ g ∧ g < w.heap.size ∧ w.cell? ⟨g, k, none⟩ = some x := by
  rcases h.2 with ⟨h0, h1⟩ | ⟨g, cap, cur, hv, hb, hg, hc, hm, hs, ht⟩
  · omega
  · obtain ⟨rfl, -, -⟩ := Value.slice.inj hv
    have hadd : (⟨g, 0, none⟩ : Addr).add k = ⟨g, k, none⟩ := by unfold Addr.add; split <;> simp_all
    have := h.cells (g := g) rfl k x hx
    rw [hadd] at this
    exact ⟨g, rfl, hb, (Array.getElem?_eq_some_iff.1 hg).1, this⟩
theorem bodE_cons (D : List (List UInt8 × Nat)) (k : Nat) (t : List UInt8) (q : Nat) (r : List UInt8) (hk : D[k]? = some (t, q)) :
    bodE (D.drop k) r = if r.length < q then none else match fldE t (r.take q) with
    | none => none
    | some f => (bodE (D.drop (k + 1)) (r.drop q)).map (f :: ·) := by
  have hlt : k < D.length := (List.getElem?_eq_some_iff.1 hk).1
  rw [List.drop_eq_getElem_cons hlt]
  have e : D[k] = (t, q) := by
    rw [List.getElem?_eq_getElem hlt] at hk
    exact Option.some.inj hk
  rw [e]
  rfl

set_option maxHeartbeats 32000000 in
set_option maxRecDepth 100000 in
theorem fields_any (b : Nat) (l : List UInt8) (w : World) (hE : ∀ W, Below b w W → Env W) (h : RD b l w) (hz : l.length ≤ 100000) :
    Calls Tryd.prog 59 #[.pointer (some ⟨b, 0, none⟩)] w fun e w' => FsEnd w b (fieldsE l) e w' := by
  have hlt := h.lt
  obtain ⟨Q, hQ⟩ : ∃ Q, (fun e w' => FsEnd w b (fieldsE l) e w') = Q := ⟨_, rfl⟩
  rw [hQ]
  have HQ : RowKit.Hid (∀ e w', FsEnd w b (fieldsE l) e w' → Q e w') := by rw [← hQ]; exact fun _ _ h => h
  clear hQ
  have HE := Lib.hid hE
  have HT0 : RowKit.Hid (TS w b l (.slice none 0 0) (.slice none 0 0) [] [] w) := ⟨h, hlt, World.ownsRow_nil _ _ _ _, World.ownsRow_nil _ _ _ _, .inl rfl, Exc.refl _ _ _⟩
  obtain ⟨i0, hi0, hz0, hz1, hz2⟩ := info_string
  obtain ⟨j0, hj0, hy0, hy1, hy2⟩ := info_int10
  have HI := Lib.hid hi0
  have HZ0 := Lib.hid hz0
  have HZ1 := Lib.hid hz1
  have HZ2 := Lib.hid hz2
  have HJ := Lib.hid hj0
  have HY0 := Lib.hid hy0
  have HY1 := Lib.hid hy1
  have HY2 := Lib.hid hy2
  have HD0 : RowKit.Hid (dirE l = (dirE l).map fun x => (([] : List (List UInt8 × Nat)) ++ x.1, x.2)) := by
    unfold RowKit.Hid
    cases dirE l <;> rfl
  clear hi0 hz0 hz1 hz2 hj0 hy0 hy1 hy2 h hE
  go_enter Tryd.func59, Tryd.ntmps59
  go_wp2
  go_loopw [3, 4] (fun tv sv wr => ∃ (rest : List UInt8) (D : List (List UInt8 × Nat)) (at' as' : Option Addr) (ct cs n : Nat), tv = .slice at' n ct ∧ sv = .slice as' n cs ∧ D.length = n ∧ rest.length + 12 * n ≤ l.length ∧
    RowKit.Hid (dirE l = (dirE rest).map fun x => (D ++ x.1, x.2)) ∧ RowKit.Hid (TS w b rest (.slice at' n ct) (.slice as' n cs) (D.map (·.1)) (D.map (·.2)) wr)) (fun _ _ wr => lenC b wr)
  case atStart => exact ⟨l, [], none, none, 0, 0, 0, rfl, rfl, rfl, by omega, HD0, HT0⟩
  case round =>
    obtain ⟨rest, D, at', as', ct, cs, n, rfl, rfl, hDn, hrl, HD, HT⟩ := hrel
    clear HD0 HT0
    have hAl : (D.map (·.1)).length = n := by rw [List.length_map, hDn]
    have hZl : (D.map (·.2)).length = n := by rw [List.length_map, hDn]
    obtain ⟨A, hA⟩ : ∃ A, D.map (·.1) = A := ⟨_, rfl⟩
    obtain ⟨Z, hZ⟩ : ∃ Z, D.map (·.2) = Z := ⟨_, rfl⟩
    rw [hA] at hAl HT
    rw [hZ] at hZl HT
    have HA := Lib.hid hA
    have HZ := Lib.hid hZ
    clear hA hZ
    obtain ⟨rb, rf⟩ := HT.out.rd.cell
    cases hpre : Lib.hasPrefix rest [30] with
    | true =>
      have cP := Lib.hid (cPre1 rest 30 true hpre wr)
      have cN := Lib.hid (next_ok b rest 1 wr HT.out.rd (pre_len rest hpre))
      have HRes : RowKit.Hid (fieldsE l = bodE D (rest.drop 1)) := by
        unfold RowKit.Hid fieldsE
        rw [HD.out, dirE_end rest hpre]
        simp
      have hT1 := HT.out.setB (rest.drop 1)
      obtain ⟨W7, hW7⟩ : ∃ W7, wr.setCell ⟨b, 0, none⟩ (.string (S (rest.drop 1))) = W7 := ⟨_, rfl⟩
      rw [hW7] at hT1 cN
      have HF7 := Lib.hid hT1.fs
      have hrl1 : (rest.drop 1).length ≤ 100000 := by rw [List.length_drop]; omega
      have HTags : RowKit.Hid (∀ (k : Nat) (t : List UInt8) (q : Nat), D[k]? = some (t, q) → ∃ g, at' = some ⟨g, 0, none⟩ ∧ w.heap.size ≤ g ∧ g < W7.heap.size ∧ W7.cell? ⟨g, k, none⟩ = some (.string (S t))) := by
        intro k t q hk
        have hr := hT1.tags
        rw [hAl] at hr
        have hlt2 : k < n := by
          rw [← hDn]
          exact (List.getElem?_eq_some_iff.1 hk).1
        exact own_at hr k hlt2 _ (by rw [← HA.out, List.map_map, List.getElem?_map, hk]; rfl)
      have HSizes : RowKit.Hid (∀ (k : Nat) (t : List UInt8) (q : Nat), D[k]? = some (t, q) → ∃ g, as' = some ⟨g, 0, none⟩ ∧ w.heap.size ≤ g ∧ g < W7.heap.size ∧ W7.cell? ⟨g, k, none⟩ = some (.int .i64 (q : Int))) := by
        intro k t q hk
        have hr := hT1.sizes
        rw [hZl] at hr
        have hlt2 : k < n := by
          rw [← hDn]
          exact (List.getElem?_eq_some_iff.1 hk).1
        exact own_at hr k hlt2 _ (by rw [← HZ.out, List.map_map, List.getElem?_map, hk]; rfl)
      have HB0 : RowKit.Hid (bodE D (rest.drop 1) = (bodE (D.drop 0) (rest.drop 1)).map (([] : List Fld) ++ ·)) := by
        unfold RowKit.Hid
        rw [List.drop_zero]
        cases bodE D (rest.drop 1) <;> rfl
      have HDn := Lib.hid hDn
      have hn0 : n ≤ 100000 := by omega
      clear hT1 hW7 hpre HT HD hAl hZl hDn HA HZ
      go_wp2_with fail
      refine cP.out.mono ?_
      rintro e w1 ⟨rfl, hw1⟩
      rw [hw1]
      clear hw1
      go_wp2_with fail
      refine cN.out.mono ?_
      rintro e w1 ⟨rfl, hw1⟩
      rw [hw1]
      clear hw1 rb rf cP cN
      go_wp2
      go_loopw [5, 31] (fun fv i wr => ∃ (k : Nat) (L : List Fld) (r2 : List UInt8) (ao : Option Addr) (cp : Nat), fv = .slice ao k cp ∧ i = .int .i64 (k : Int) ∧ k ≤ n ∧ L.length = k ∧ r2.length ≤ 100000 ∧
        RowKit.Hid (bodE D (rest.drop 1) = (bodE (D.drop k) r2).map (L ++ ·)) ∧ RowKit.Hid (FS w b W7 r2 (.slice ao k cp) L wr)) (fun _ i _ => n - (intOf i).toNat)
      case atStart => exact ⟨0, [], rest.drop 1, none, 0, rfl, rfl, Nat.zero_le _, rfl, hrl1, HB0, HF7⟩
      case round =>
        obtain ⟨k, L, r2, ao, cp, rfl, rfl, hk, hLk, hr2, HB, HF⟩ := hrel
        by_cases hkn : k < n
        · have i1 : (0 : Int) ≤ (k : Int) := by omega
          have i2 : (k : Int) < (n : Int) := by omega
          obtain ⟨⟨t, q⟩, hDk⟩ : ∃ x, D[k]? = some x := ⟨_, List.getElem?_eq_getElem (by rw [HDn.out]; exact hkn)⟩
          obtain ⟨g1, hg1, hg1a, hg1b, ct1⟩ := HTags.out k t q hDk
          obtain ⟨g2, hg2, hg2a, hg2b, cs2⟩ := HSizes.out k t q hDk
          subst hg1
          subst hg2
          have c1 : wr.cell? ⟨g1, k, none⟩ = some (.string (S t)) := (World.cell?_of_block (HF.out.mid g1 hg1a hg1b)).trans ct1
          have c2 : wr.cell? ⟨g2, k, none⟩ = some (.int .i64 (q : Int)) := (World.cell?_of_block (HF.out.mid g2 hg2a hg2b)).trans cs2
          have HCons := Lib.hid (bodE_cons D k t q r2 hDk)
          have HNone : RowKit.Hid (bodE (D.drop k) r2 = none → fieldsE l = none) := by
            intro h
            rw [HRes.out, HB.out, h]
            rfl
          clear hDk ct1 cs2 hg1a hg1b hg2a hg2b HTags HSizes
          by_cases hq : r2.length < q
          · have cN := Lib.hid (next_bad b r2 q wr HF.out.rd hq)
            have HNo := Lib.hid (HNone.out (by rw [HCons.out, if_pos hq]))
            clear hq
            go_wp2_with fail
            refine cN.out.mono ?_
            rintro e w1 ⟨rfl, hw1⟩
            rw [hw1]
            clear hw1
            go_wp2
            exact ⟨rfl, HQ.out _ _ ⟨HF.out.exc, .inl ⟨HNo.out, rfl⟩⟩⟩
          have cN := Lib.hid (next_ok b r2 q wr HF.out.rd (by omega))
          have hF8 := HF.out.setB (r2.drop q)
          obtain ⟨W8, hW8⟩ : ∃ W8, wr.setCell ⟨b, 0, none⟩ (.string (S (r2.drop q))) = W8 := ⟨_, rfl⟩
          rw [hW8] at hF8 cN
          have hE9 : ∀ W, Below W8.heap.size (W8.alloc (.cells #[.string (S (r2.take q))] 72)) W → Env W := fun W hW =>
            HE.out W ((hF8.exc.bel.trans ((Below.refl W8.heap.size W8).alloc (Nat.le_refl _) (.cells #[.string (S (r2.take q))] 72) |>.mono (Nat.le_of_lt hF8.rd.lt))).trans (hW.mono (Nat.le_of_lt hF8.rd.lt)))
          have cF := Lib.hid (field_any W8.heap.size (r2.take q) t (W8.alloc (.cells #[.string (S (r2.take q))] 72)) hE9 (heap_alloc_new W8 _) (by rw [List.length_take]; omega))
          have HExc : RowKit.Hid (∀ w1, Exc W8.heap.size (W8.alloc (.cells #[.string (S (r2.take q))] 72)).heap.size (W8.alloc (.cells #[.string (S (r2.take q))] 72)) w1 → Exc W8.heap.size W8.heap.size W8 w1) := fun w1 hx =>
            (Exc.of ((Below.refl W8.heap.size W8).alloc (Nat.le_refl _) _) (Nat.le_refl _)).trans (hx.mono (by simp))
          have hr8 : (r2.drop q).length ≤ 100000 := by rw [List.length_drop]; omega
          have HF8 := Lib.hid hF8
          have hqq := hq
          clear hF8 hW8 hE9
          go_wp2_with fail
          refine cN.out.mono ?_
          rintro e w1 ⟨rfl, hw1⟩
          rw [hw1]
          clear hw1 c1 c2 hq
          go_wp2_with fail
          refine cF.out.mono ?_
          rintro e w1 ⟨hx, hres⟩
          have HF9 := Lib.hid (HF8.out.step (HExc.out w1 hx))
          rcases hres with ⟨hn, rfl⟩ | ⟨f, u, hs, rfl, hnew⟩
          · have HNo := Lib.hid (HNone.out (by rw [HCons.out, if_neg hqq, hn]))
            clear hn hx
            go_wp2
            exact ⟨rfl, HQ.out _ _ ⟨HF9.out.exc, .inl ⟨HNo.out, rfl⟩⟩⟩
          · obtain ⟨au, cu, hu, _⟩ := hnew.here.length
            obtain ⟨us0, _, hown0, _⟩ := HF9.out.row
            have hnx : NewX W7.heap.size (Value.slice ao k cp).ownBlock (QL u f.subs) w1 := NewX.of hnew (Nat.le_trans HF8.out.size (by simp)) (fun j hj => by
              obtain ⟨us8, _, hown8, _⟩ := HF8.out.row
              have := (hown8.lt j hj).2
              simp
              omega)
            have hFa := HF9.out.step (w3 := w1.alloc (.cells #[.string (S f.tag), .string (S f.ind), u, .int .i64 f.auth] 49)) (.of ((Below.refl _ _).alloc (Nat.le_refl _) _) (Nat.le_refl _))
            have hna := hnx.on (w' := w1.alloc (.cells #[.string (S f.tag), .string (S f.ind), u, .int .i64 f.auth] 49)) (by simp) (fun i _ hi _ => Below.heap_alloc _ _ _ hi)
            obtain ⟨xs, hxs, hpush⟩ := hFa.row.open
            have HPush := Lib.hid (fun v' w' => hpush f u v' w' hna)
            rw [hLk] at hxs
            have HXs := Lib.hid hxs
            have HFa := Lib.hid hFa
            have HB2 : RowKit.Hid (bodE D (rest.drop 1) = (bodE (D.drop (k + 1)) (r2.drop q)).map ((L ++ [f]) ++ ·)) := by
              unfold RowKit.Hid
              rw [HB.out, HCons.out, if_neg hqq, hs]
              cases bodE (D.drop (k + 1)) (r2.drop q) <;> simp
            have hs9 := HF9.out.size
            obtain ⟨fi0, hfi, hfz0, hfz1, hfz2⟩ := info_fld
            have HFI := Lib.hid hfi
            have HFZ0 := Lib.hid hfz0
            have HFZ1 := Lib.hid hfz1
            have HFZ2 := Lib.hid hfz2
            subst hu
            have hone : ∀ x ∈ encF f (.slice au f.subs.length cu), x.oneCell' = true := by
              intro x hx
              simp only [encF, List.mem_cons, List.not_mem_nil, or_false] at hx
              rcases hx with rfl | rfl | rfl | rfl <;> rfl
            have HOne := Lib.hid hone
            clear hx hs hnew hown0 hnx hFa hna hxs hpush HF9 HB HCons HNone hqq cF cN hfi hfz0 hfz1 hfz2 hone HExc
            unfold FV
            go_wp2_with (at_builtin; go_loud (refine wpList_append_two _ rfl _ _ 22 rfl W7.heap.size 49 fi0 (.agg #[.string ⟨#[]⟩, .string ⟨#[]⟩, .slice none 0 0, .int .i64 0]) 4 64 Tryd.underlying22 HFI.out HFZ0.out HFZ1.out HFZ2.out rfl (by decide) _ _ _ rfl HXs.out ⟨w1.heap.size, 0, none⟩ 1 1 (encF f (.slice au f.subs.length cu)) rfl rfl (cells_four _ _ _ _ _ _) HOne.out (by decide) (by unfold maxLen; omega) (by omega) (by simp; omega) ?_))
            intro fv2 w3 hown3 hg3 hnn3 hob3
            have hFN := HPush.out fv2 w3 hg3 (by rw [show (w1.alloc (.cells #[.string (S f.tag), .string (S f.ind), .slice au f.subs.length cu, .int .i64 f.auth] 49)).heap.size = w1.heap.size + 1 by simp]; exact hob3) (by rw [hLk]; exact hown3)
            have HFS := Lib.hid (HFa.out.push f hg3 hFN)
            obtain ⟨ao2, cp2, rfl⟩ := own_form hown3
            clear hFN hown3 hg3 hnn3 hob3 HFa HPush HXs HOne
            go_wp2
            go_roundw
            case rel => exact ⟨k + 1, L ++ [f], r2.drop q, _, _, by first | rfl | trivial, by go_num, by omega, by rw [List.length_append, hLk]; rfl, hr8, HB2, HFS⟩
            case measure => simp [intOf]; omega
        · obtain rfl : k = n := by omega
          have HSome : RowKit.Hid (fieldsE l = some L) := by
            unfold RowKit.Hid
            rw [HRes.out, HB.out, List.drop_of_length_le (by rw [HDn.out]; exact Nat.le_refl _)]
            simp [bodE]
          have HFx := HF
          clear HF HF7 HB HB0 HTags HSizes
          go_wp2
          exact HQ.out _ _ ⟨HFx.out.exc, .inr ⟨_, _, HSome.out, rfl, HFx.out.row.new.mono HFx.out.le⟩⟩
    | false =>
      have cP := Lib.hid (cPre1 rest 30 false hpre wr)
      have HBad := Lib.hid (dirE_bad rest hpre)
      have HGo := Lib.hid (dirE_go rest hpre)
      have HNone : RowKit.Hid (dirE rest = none → fieldsE l = none) := by
        intro h
        unfold fieldsE
        rw [HD.out, h]
        rfl
      clear hpre
      by_cases h3 : rest.length < 3
      · have cN := Lib.hid (next_bad b rest 3 wr HT.out.rd h3)
        have HNo := Lib.hid (HNone.out (HBad.out (.inl (by omega))))
        clear h3
        go_wp2_with fail
        refine cP.out.mono ?_
        rintro e w1 ⟨rfl, hw1⟩
        rw [hw1]
        clear hw1
        go_wp2_with fail
        refine cN.out.mono ?_
        rintro e w1 ⟨rfl, hw1⟩
        rw [hw1]
        clear hw1
        go_wp2
        exact ⟨rfl, HQ.out _ _ ⟨HT.out.exc, .inl ⟨HNo.out, rfl⟩⟩⟩
      have cN := Lib.hid (next_ok b rest 3 wr HT.out.rd (by omega))
      have hT1 := HT.out.setB (rest.drop 3)
      obtain ⟨W1, hW1⟩ : ∃ W1, wr.setCell ⟨b, 0, none⟩ (.string (S (rest.drop 3))) = W1 := ⟨_, rfl⟩
      rw [hW1] at hT1 cN
      have hs1 := hT1.size
      have HT1 := Lib.hid hT1
      have hrow := hT1.tags
      rw [hAl] at hrow
      have HRow := Lib.hid hrow
      clear hT1 hW1 hrow
      go_wp2_with fail
      refine cP.out.mono ?_
      rintro e w1 ⟨rfl, hw1⟩
      rw [hw1]
      clear hw1
      go_wp2_with fail
      refine cN.out.mono ?_
      rintro e w1 ⟨rfl, hw1⟩
      rw [hw1]
      clear hw1 rb rf
      go_wp2_with (at_builtin; go_loud (refine wpList_append_two _ rfl _ _ 38 rfl w.heap.size 9 i0 (.string ⟨#[]⟩) 1 16 Tryd.underlying38 HI.out HZ0.out HZ1.out HZ2.out rfl (by decide) _ _ _ rfl (HRow.out.alloc _) ⟨W1.heap.size, 0, none⟩ 1 1 [strB (rest.take 3)] rfl rfl (cells_one _ _ _) (by intro u hu; simp at hu; subst hu; rfl) (by decide) (by unfold maxLen; omega) (by omega) (by simp; omega) ?_))
      intro tv2 W2 hown2 hg2 hnn2 hob2
      have hT2 := HT1.out.pushTag (.cells #[strB (rest.take 3)] 9) (rest.take 3) hg2 hob2 (by rw [hAl]; exact hown2)
      obtain ⟨at2, ct2, rfl⟩ := own_form hown2
      have HT2 := Lib.hid hT2
      clear hT2 hown2 hg2 hnn2 hob2 HT1 HRow hs1
      cases h4 : numOk (rest.drop 3) 4 with
      | false =>
        have cM := Lib.hid (number_bad b (rest.drop 3) 4 W2 HT2.out.rd (by decide) h4)
        have HNo := Lib.hid (HNone.out (HBad.out (.inr h4)))
        clear h3 h4
        go_wp2_with fail
        refine cM.out.mono ?_
        rintro e w1 ⟨rfl, hw1⟩
        have HX : RowKit.Hid (Exc b w.heap.size w w1) := by
          rcases hw1 with rfl | rfl
          · exact HT2.out.exc
          · exact (HT2.out.setB _).exc
        clear hw1
        go_wp2
        exact ⟨rfl, HQ.out _ _ ⟨HX.out, .inl ⟨HNo.out, rfl⟩⟩⟩
      | true =>
        have cM := Lib.hid (number_ok b (rest.drop 3) 4 W2 HT2.out.rd (by decide) h4)
        rw [List.drop_drop, show 3 + 4 = 7 from rfl] at cM
        have hT3 := HT2.out.setB (rest.drop 7)
        obtain ⟨W3, hW3⟩ : ∃ W3, W2.setCell ⟨b, 0, none⟩ (.string (S (rest.drop 7))) = W3 := ⟨_, rfl⟩
        rw [hW3] at hT3 cM
        obtain ⟨q, hq⟩ : ∃ q, numOf (rest.drop 3) 4 = q := ⟨_, rfl⟩
        rw [hq] at cM HGo
        have hs3 := hT3.size
        have hrow := hT3.sizes
        rw [hZl] at hrow
        have HRow := Lib.hid hrow
        have HT3 := Lib.hid hT3
        clear hW3 hT3 hrow HT2 hq
        go_wp2_with fail
        refine cM.out.mono ?_
        rintro e w1 ⟨rfl, hw1⟩
        rw [hw1]
        clear hw1
        go_wp2_with (at_builtin; go_loud (refine wpList_append_two _ rfl _ _ 99 rfl w.heap.size 3 j0 (.int .i64 0) 1 8 Tryd.underlying99 HJ.out HY0.out HY1.out HY2.out rfl (by decide) _ _ _ rfl (HRow.out.alloc _) ⟨W3.heap.size, 0, none⟩ 1 1 [numV q] rfl rfl (cells_one _ _ _) (by intro u hu; simp at hu; subst hu; rfl) (by decide) (by unfold maxLen; omega) (by omega) (by simp; omega) ?_))
        intro sv4 W4 hown4 hg4 hnn4 hob4
        have hT4 := HT3.out.pushSize (.cells #[numV q] 3) q hg4 hob4 (by rw [hZl]; exact hown4)
        obtain ⟨as4, cs4, rfl⟩ := own_form hown4
        have HT4 := Lib.hid hT4
        clear hT4 hown4 hg4 hnn4 hob4 HT3 HRow hs3
        by_cases h12 : rest.length < 12
        · have cK := Lib.hid (next_bad b (rest.drop 7) 5 W4 HT4.out.rd (by rw [List.length_drop]; omega))
          have HNo := Lib.hid (HNone.out (HBad.out (.inl h12)))
          clear h3 h4 h12
          go_wp2_with fail
          refine cK.out.mono ?_
          rintro e w1 ⟨rfl, hw1⟩
          rw [hw1]
          clear hw1
          go_wp2
          exact ⟨rfl, HQ.out _ _ ⟨HT4.out.exc, .inl ⟨HNo.out, rfl⟩⟩⟩
        have cK := Lib.hid (next_ok b (rest.drop 7) 5 W4 HT4.out.rd (by rw [List.length_drop]; omega))
        rw [List.drop_drop, show 7 + 5 = 12 from rfl] at cK
        have hT5 := HT4.out.setB (rest.drop 12)
        have HD2 : RowKit.Hid (dirE l = (dirE (rest.drop 12)).map fun x => ((D ++ [(rest.take 3, q)]) ++ x.1, x.2)) := by
          unfold RowKit.Hid
          rw [HD.out, HGo.out (by rw [h4]; intro g; rcases g with g | g; exact h12 g; cases g)]
          cases dirE (rest.drop 12) <;> simp
        have HLen : RowKit.Hid ((rest.drop 12).length + 12 * (n + 1) ≤ l.length ∧ (rest.drop 12).length < lenC b wr) := by
          rw [HT.out.rd.len, List.length_drop]
          exact ⟨by omega, by omega⟩
        have HT5 : RowKit.Hid (TS w b (rest.drop 12) (.slice at2 (n + 1) ct2) (.slice as4 (n + 1) cs4) ((D ++ [(rest.take 3, q)]).map (·.1)) ((D ++ [(rest.take 3, q)]).map (·.2)) (W4.setCell ⟨b, 0, none⟩ (.string (S (rest.drop 12))))) := by
          unfold RowKit.Hid
          rw [List.map_append, List.map_append, HA.out, HZ.out]
          exact hT5
        clear hT5 h3 h4 h12 HT4
        go_wp2_with fail
        refine cK.out.mono ?_
        rintro e w1 ⟨rfl, hw1⟩
        rw [hw1]
        clear hw1
        go_wp2
        go_roundw
        case rel => exact ⟨rest.drop 12, D ++ [(rest.take 3, q)], _, _, _, _, _, by first | rfl | trivial, by first | rfl | trivial, by rw [List.length_append, hDn]; rfl, HLen.out.1, HD2, HT5⟩
        case measure => rw [HT5.out.rd.len]; exact HLen.out.2
end

section
open Go.RowKit Go.PlainAid
/-- What lies in memory while a record is read: its result's place, the record. -/
structure NR (w : World) (b : Nat) (id ver kind : Int) (lang : ByteArray) (fv : Value) (wr : World) : Prop where
  lt : b < w.heap.size
  f : wr.heap[w.heap.size + 1]? = some (.cells #[.int .i64 id, .int .i64 ver, .int .i64 kind, .string lang, fv] 24 (0, 0))
  r : wr.heap[w.heap.size]? = some (.cells #[.int .i64 0, .int .i64 0, .int .i64 0, .string ⟨#[]⟩, .slice none 0 0] 24 (0, 0))
  exc : Exc b w.heap.size w wr
def RCells (N : Nat) (id ver kind : Int) (lang : ByteArray) (fv : Value) (wr : World) : Prop :=
  (wr.cell? ⟨N, 0, none⟩ = some (.int .i64 id) ∧ wr.cell? ⟨N, 1, none⟩ = some (.int .i64 ver) ∧ wr.cell? ⟨N, 2, none⟩ = some (.int .i64 kind) ∧ wr.cell? ⟨N, 3, none⟩ = some (.string lang) ∧ wr.cell? ⟨N, 4, none⟩ = some fv) ∧
  (wr.frozen? ⟨N, 0, none⟩ = false ∧ wr.frozen? ⟨N, 1, none⟩ = false ∧ wr.frozen? ⟨N, 2, none⟩ = false ∧ wr.frozen? ⟨N, 3, none⟩ = false ∧ wr.frozen? ⟨N, 4, none⟩ = false)
theorem rcells {N : Nat} {id ver kind : Int} {lang : ByteArray} {fv : Value} {wr : World} (h : wr.heap[N]? = some (.cells #[.int .i64 id, .int .i64 ver, .int .i64 kind, .string lang, fv] 24 (0, 0))) : RCells N id ver kind lang fv wr := by
  refine ⟨⟨?_, ?_, ?_, ?_, ?_⟩, Lib.frozen_of_heap h 0, Lib.frozen_of_heap h 1, Lib.frozen_of_heap h 2, Lib.frozen_of_heap h 3, Lib.frozen_of_heap h 4⟩ <;> (rw [Lib.cell_of_heap h]; rfl)
section
variable {w wr : World} {b : Nat} {id ver kind : Int} {lang : ByteArray} {fv : Value}
theorem NR.first (w : World) (b : Nat) (hb : b < w.heap.size) : NR w b 0 0 0 ⟨#[]⟩ (.slice none 0 0) ((w.alloc (.cells #[.int .i64 0, .int .i64 0, .int .i64 0, .string ⟨#[]⟩, .slice none 0 0] 24)).alloc (.cells #[.int .i64 0, .int .i64 0, .int .i64 0, .string ⟨#[]⟩, .slice none 0 0] 24)) := by
  refine ⟨hb, ?_, ?_, ((Exc.refl b w.heap.size w).alloc (Nat.le_of_lt hb) (Nat.le_refl _) _).alloc (Nat.le_of_lt hb) (by simp) _⟩
  · have := heap_alloc_new (w.alloc (.cells #[.int .i64 0, .int .i64 0, .int .i64 0, .string ⟨#[]⟩, .slice none 0 0] 24)) (.cells #[.int .i64 0, .int .i64 0, .int .i64 0, .string ⟨#[]⟩, .slice none 0 0] 24)
    simpa using this
  · exact (Below.heap_alloc _ _ _ (by simp)).trans (heap_alloc_new w _)
theorem NR.cells (h : NR w b id ver kind lang fv wr) : RCells (w.heap.size + 1) id ver kind lang fv wr := rcells h.f
theorem NR.size (h : NR w b id ver kind lang fv wr) : w.heap.size + 2 ≤ wr.heap.size := by
  have := (Array.getElem?_eq_some_iff.1 h.f).1
  omega
theorem NR.setB (h : NR w b id ver kind lang fv wr) (u : Value) : NR w b id ver kind lang fv (wr.setCell ⟨b, 0, none⟩ u) :=
  have hb := h.lt
  ⟨hb, (heap_set_ne wr _ u _ (by show w.heap.size + 1 ≠ b; omega)).trans h.f, (heap_set_ne wr _ u _ (by show w.heap.size ≠ b; omega)).trans h.r, h.exc.trans (.setB _ _ _ _ _)⟩
theorem NR.setId (h : NR w b id ver kind lang fv wr) (x : Int) : NR w b x ver kind lang fv (wr.setCell ⟨w.heap.size + 1, 0, none⟩ (.int .i64 x)) :=
  ⟨h.lt, by simp [World.setCell, Array.getElem?_modify, h.f], (heap_set_ne wr _ _ _ (by simp)).trans h.r, h.exc.setCell (Nat.le_of_lt h.lt) (p := ⟨w.heap.size + 1, 0, none⟩) (Nat.le_succ _) _⟩
theorem NR.setVer (h : NR w b id ver kind lang fv wr) (x : Int) : NR w b id x kind lang fv (wr.setCell ⟨w.heap.size + 1, 1, none⟩ (.int .i64 x)) :=
  ⟨h.lt, by simp [World.setCell, Array.getElem?_modify, h.f], (heap_set_ne wr _ _ _ (by simp)).trans h.r, h.exc.setCell (Nat.le_of_lt h.lt) (p := ⟨w.heap.size + 1, 1, none⟩) (Nat.le_succ _) _⟩
theorem NR.setKind (h : NR w b id ver kind lang fv wr) (x : Int) : NR w b id ver x lang fv (wr.setCell ⟨w.heap.size + 1, 2, none⟩ (.int .i64 x)) :=
  ⟨h.lt, by simp [World.setCell, Array.getElem?_modify, h.f], (heap_set_ne wr _ _ _ (by simp)).trans h.r, h.exc.setCell (Nat.le_of_lt h.lt) (p := ⟨w.heap.size + 1, 2, none⟩) (Nat.le_succ _) _⟩
theorem NR.setLang (h : NR w b id ver kind lang fv wr) (x : ByteArray) : NR w b id ver kind x fv (wr.setCell ⟨w.heap.size + 1, 3, none⟩ (.string x)) :=
  ⟨h.lt, by simp [World.setCell, Array.getElem?_modify, h.f], (heap_set_ne wr _ _ _ (by simp)).trans h.r, h.exc.setCell (Nat.le_of_lt h.lt) (p := ⟨w.heap.size + 1, 3, none⟩) (Nat.le_succ _) _⟩
theorem NR.setFields (h : NR w b id ver kind lang fv wr) (x : Value) : NR w b id ver kind lang x (wr.setCell ⟨w.heap.size + 1, 4, none⟩ (x)) :=
  ⟨h.lt, by simp [World.setCell, Array.getElem?_modify, h.f], (heap_set_ne wr _ _ _ (by simp)).trans h.r, h.exc.setCell (Nat.le_of_lt h.lt) (p := ⟨w.heap.size + 1, 4, none⟩) (Nat.le_succ _) _⟩
/-- A call that keeps all old blocks but the reader's. -/
theorem NR.step {w3 : World} (h : NR w b id ver kind lang fv wr) (hx : Exc b wr.heap.size wr w3) : NR w b id ver kind lang fv w3 :=
  have hb := h.lt
  have hs := h.size
  ⟨hb, (hx.rest _ (by omega) (by omega)).trans h.f, (hx.rest _ (by omega) (by omega)).trans h.r, h.exc.trans (hx.mono (by omega))⟩
theorem NR.ret (h : NR w b id ver kind lang fv wr) (F : List Fld) (hf : New (w.heap.size + 2) (FL fv F) wr) :
    RowKit.Hid ((((((wr.setCell ⟨w.heap.size, 0, none⟩ (.int .i64 id)).setCell ⟨w.heap.size, 1, none⟩ (.int .i64 ver)).setCell ⟨w.heap.size, 2, none⟩ (.int .i64 kind)).setCell ⟨w.heap.size, 3, none⟩ (.string lang)).setCell ⟨w.heap.size, 4, none⟩ fv).heap[w.heap.size]? = some (.cells #[.int .i64 id, .int .i64 ver, .int .i64 kind, .string lang, fv] 24 (0, 0))) ∧
    RowKit.Hid (New w.heap.size (FL fv F) (((((wr.setCell ⟨w.heap.size, 0, none⟩ (.int .i64 id)).setCell ⟨w.heap.size, 1, none⟩ (.int .i64 ver)).setCell ⟨w.heap.size, 2, none⟩ (.int .i64 kind)).setCell ⟨w.heap.size, 3, none⟩ (.string lang)).setCell ⟨w.heap.size, 4, none⟩ fv)) ∧
    RowKit.Hid (Exc b w.heap.size w (((((wr.setCell ⟨w.heap.size, 0, none⟩ (.int .i64 id)).setCell ⟨w.heap.size, 1, none⟩ (.int .i64 ver)).setCell ⟨w.heap.size, 2, none⟩ (.int .i64 kind)).setCell ⟨w.heap.size, 3, none⟩ (.string lang)).setCell ⟨w.heap.size, 4, none⟩ fv)) := by
  have hb := Nat.le_of_lt h.lt
  refine ⟨?_, ?_, ?_⟩
  · show (((((wr.setCell ⟨w.heap.size, 0, none⟩ (.int .i64 id)).setCell ⟨w.heap.size, 1, none⟩ (.int .i64 ver)).setCell ⟨w.heap.size, 2, none⟩ (.int .i64 kind)).setCell ⟨w.heap.size, 3, none⟩ (.string lang)).setCell ⟨w.heap.size, 4, none⟩ fv).heap[w.heap.size]? = _
    simp [World.setCell, Array.getElem?_modify, h.r]
  · refine (hf.on (by simp) (fun i hi _ => ?_)).mono (by omega)
    have hne : i ≠ w.heap.size := by omega
    rw [heap_set_ne _ _ _ _ (by exact hne), heap_set_ne _ _ _ _ (by exact hne), heap_set_ne _ _ _ _ (by exact hne), heap_set_ne _ _ _ _ (by exact hne), heap_set_ne _ _ _ _ (by exact hne)]
  · exact ((((h.exc.setCell hb (p := ⟨w.heap.size, 0, none⟩) (Nat.le_refl _) _).setCell hb (p := ⟨w.heap.size, 1, none⟩) (Nat.le_refl _) _).setCell hb (p := ⟨w.heap.size, 2, none⟩) (Nat.le_refl _) _).setCell hb (p := ⟨w.heap.size, 3, none⟩) (Nat.le_refl _) _).setCell hb (p := ⟨w.heap.size, 4, none⟩) (Nat.le_refl _) _
end
/-- What record leaves. -/
def REnd (w : World) (b : Nat) (R : Option Rec) (e : Ending) (w' : World) : Prop :=
  Exc b w.heap.size w w' ∧ ((R = none ∧ e = .panicked upV) ∨ ∃ r u, R = some r ∧ e = .returned (RV r u) ∧ New w.heap.size (FL u r.fields) w')
theorem take_one (l : List UInt8) (p : Nat) (h : p < l.length) : (l.drop p).take 1 = [l.getD p 0] := by
  rw [show l.drop p = l.getD p 0 :: l.drop (p + 1) by
    rw [List.getD_eq_getElem?_getD, List.getElem?_eq_getElem h]
    exact List.drop_eq_getElem_cons h]
  rfl
theorem index_bound (c : UInt8) : -1 ≤ Lib.indexByte [98, 115, 109, 100] c ∧ Lib.indexByte [98, 115, 109, 100] c ≤ 3 := by
  by_cases h1 : c = 98
  · subst h1; decide
  by_cases h2 : c = 115
  · subst h2; decide
  by_cases h3 : c = 109
  · subst h3; decide
  by_cases h4 : c = 100
  · subst h4; decide
  have e : Lib.indexByte [98, 115, 109, 100] c = -1 := by
    simp [Lib.indexByte, Ne.symm h1, Ne.symm h2, Ne.symm h3, Ne.symm h4]
  rw [e]
  decide

set_option maxHeartbeats 32000000 in
set_option maxRecDepth 100000 in
theorem record_any (b : Nat) (l : List UInt8) (w : World) (hE : ∀ W, Below b w W → Env W) (h : RD b l w) (hz : l.length ≤ 100000) :
    Calls Tryd.prog 40 #[.pointer (some ⟨b, 0, none⟩)] w fun e w' => REnd w b (recE l) e w' := by
  have hlt := h.lt
  obtain ⟨Q, hQ⟩ : ∃ Q, (fun e w' => REnd w b (recE l) e w') = Q := ⟨_, rfl⟩
  rw [hQ]
  have HQ : RowKit.Hid (∀ e w', REnd w b (recE l) e w' → Q e w') := by rw [← hQ]; exact fun _ _ h => h
  clear hQ
  have HE := Lib.hid hE
  have hN0 := NR.first w b hlt
  obtain ⟨W0, hW0⟩ : ∃ W0, (w.alloc (.cells #[.int .i64 0, .int .i64 0, .int .i64 0, .string ⟨#[]⟩, .slice none 0 0] 24)).alloc (.cells #[.int .i64 0, .int .i64 0, .int .i64 0, .string ⟨#[]⟩, .slice none 0 0] 24) = W0 := ⟨_, rfl⟩
  have hR0 : RD b (l.drop 0) W0 := h.same (by rw [← hW0, Below.heap_alloc _ _ _ (by simp; omega), Below.heap_alloc _ _ _ hlt])
  rw [hW0] at hN0
  have HN0 := Lib.hid hN0
  have HR0 := Lib.hid hR0
  have HW0 := Lib.hid hW0
  have HBad : RowKit.Hid ((l.length < 7 ∨ numOk (l.drop 7) 1 = false ∨ l.length < 16 ∨ numOk (l.drop 16) 4 = false ∨ l.length < 24) → recE l = none) := by
    intro h
    unfold recE
    rw [if_pos h]
  have HGood : RowKit.Hid (¬ (l.length < 7 ∨ numOk (l.drop 7) 1 = false ∨ l.length < 16 ∨ numOk (l.drop 16) 4 = false ∨ l.length < 24) → recE l = (fieldsE (l.drop 24)).map fun F => ⟨(numOf (l.drop 16) 4 : Nat), (numOf (l.drop 7) 1 : Nat), kindE (l.getD 6 0), (l.drop 8).take 3, F⟩) := by
    intro h
    unfold recE
    rw [if_neg h]
    rfl
  clear hN0 hR0 hW0 h hE
  go_enter Tryd.func40, Tryd.ntmps40
  go_wp2_with fail
  rw [HW0.out]
  by_cases g6 : l.length < 6
  · have HNo := Lib.hid (HBad.out (.inl (by omega)))
    have cB := Lib.hid (next_bad b (l.drop 0) 6 W0 HR0.out (by rw [List.length_drop]; omega))
    refine cB.out.mono ?_
    rintro e w1 ⟨rfl, hw1⟩
    rw [hw1]
    clear hw1
    go_wp2
    exact ⟨rfl, HQ.out _ _ ⟨HN0.out.exc, .inl ⟨HNo.out, rfl⟩⟩⟩
  have cG := Lib.hid (next_ok b (l.drop 0) 6 W0 HR0.out (by rw [List.length_drop]; omega))
  rw [List.drop_drop, show 0 + 6 = 6 from rfl] at cG
  have hN1 := HN0.out.setB (.string (S (l.drop 6)))
  have hR1 := HR0.out.set (l.drop 6)
  obtain ⟨W1, hV1⟩ : ∃ V, W0.setCell ⟨b, 0, none⟩ (.string (S (l.drop 6))) = V := ⟨_, rfl⟩
  rw [hV1] at hN1 hR1 cG
  refine cG.out.mono ?_
  rintro e w1 ⟨rfl, hw1⟩
  rw [hw1]
  clear hw1 hV1 HN0 HR0
  have HN1 := Lib.hid hN1
  have HR1 := Lib.hid hR1
  clear hN1 hR1
  go_wp2_with fail
  clear cG
  by_cases g7 : l.length < 7
  · have HNo := Lib.hid (HBad.out (.inl (by omega)))
    have cB := Lib.hid (next_bad b (l.drop 6) 1 W1 HR1.out (by rw [List.length_drop]; omega))
    refine cB.out.mono ?_
    rintro e w1 ⟨rfl, hw1⟩
    rw [hw1]
    clear hw1
    go_wp2
    exact ⟨rfl, HQ.out _ _ ⟨HN1.out.exc, .inl ⟨HNo.out, rfl⟩⟩⟩
  have cG := Lib.hid (next_ok b (l.drop 6) 1 W1 HR1.out (by rw [List.length_drop]; omega))
  rw [List.drop_drop, show 6 + 1 = 7 from rfl] at cG
  have hN2 := HN1.out.setB (.string (S (l.drop 7)))
  have hR2 := HR1.out.set (l.drop 7)
  obtain ⟨V2, hV2⟩ : ∃ V, W1.setCell ⟨b, 0, none⟩ (.string (S (l.drop 7))) = V := ⟨_, rfl⟩
  rw [hV2] at hN2 hR2 cG
  obtain ⟨⟨a0, a1, a2, a3, a4⟩, ⟨z0, z1, z2, z3, z4⟩⟩ := hN2.cells
  have hM2 := hN2.setKind (kindE (l.getD 6 0))
  obtain ⟨W2, hW2⟩ : ∃ W, V2.setCell ⟨w.heap.size + 1, 2, none⟩ (.int .i64 (kindE (l.getD 6 0))) = W := ⟨_, rfl⟩
  have hS2 := hR2.same (w' := W2) (by rw [← hW2]; exact heap_set_ne _ _ _ _ (by show b ≠ w.heap.size + 1; omega))
  rw [hW2] at hM2
  have HW2 := Lib.hid hW2
  clear hW2 hV2 HN1 HR1
  have HN2 := Lib.hid hM2
  have HR2 := Lib.hid hS2
  clear hN2 hR2 hM2 hS2
  rw [take_one l 6 (by omega)] at cG
  have cI := Lib.hid (cIndex1 [98, 115, 109, 100] (l.getD 6 0) V2)
  have hib := index_bound (l.getD 6 0)
  unfold kindE at HW2
  obtain ⟨ix, hix⟩ : ∃ ix, Lib.indexByte [98, 115, 109, 100] (l.getD 6 0) = ix := ⟨_, rfl⟩
  rw [hix] at cI hib HW2
  clear hix
  refine cG.out.mono ?_
  rintro e w1 ⟨rfl, hw1⟩
  rw [hw1]
  clear hw1
  go_wp2_with fail
  refine cI.out.mono ?_
  rintro e w1 ⟨rfl, hw1⟩
  rw [hw1]
  clear hw1
  go_wp2_with fail
  rw [HW2.out]
  clear HW2 hib cI a0 a1 a2 a3 a4 z0 z1 z2 z3 z4
  clear cG
  by_cases g8 : numOk (l.drop 7) 1 = false
  · have HNo := Lib.hid (HBad.out (.inr (.inl g8)))
    have cB := Lib.hid (number_bad b (l.drop 7) 1 W2 HR2.out (by decide) g8)
    refine cB.out.mono ?_
    rintro e w1 ⟨rfl, hw1⟩
    have HX : RowKit.Hid (Exc b w.heap.size w w1) := by
      rcases hw1 with rfl | rfl
      · exact HN2.out.exc
      · exact (HN2.out.setB _).exc
    clear hw1
    go_wp2
    exact ⟨rfl, HQ.out _ _ ⟨HX.out, .inl ⟨HNo.out, rfl⟩⟩⟩
  have cG := Lib.hid (number_ok b (l.drop 7) 1 W2 HR2.out (by decide) (by simpa using g8))
  rw [List.drop_drop, show 7 + 1 = 8 from rfl] at cG
  have hN3 := HN2.out.setB (.string (S (l.drop 8)))
  have hR3 := HR2.out.set (l.drop 8)
  obtain ⟨V3, hV3⟩ : ∃ V, W2.setCell ⟨b, 0, none⟩ (.string (S (l.drop 8))) = V := ⟨_, rfl⟩
  rw [hV3] at hN3 hR3 cG
  obtain ⟨⟨a0, a1, a2, a3, a4⟩, ⟨z0, z1, z2, z3, z4⟩⟩ := hN3.cells
  have hM3 := hN3.setVer ((numOf (l.drop 7) 1 : Nat) : Int)
  obtain ⟨W3, hW3⟩ : ∃ W, V3.setCell ⟨w.heap.size + 1, 1, none⟩ (.int .i64 ((numOf (l.drop 7) 1 : Nat) : Int)) = W := ⟨_, rfl⟩
  have hS3 := hR3.same (w' := W3) (by rw [← hW3]; exact heap_set_ne _ _ _ _ (by show b ≠ w.heap.size + 1; omega))
  rw [hW3] at hM3
  have HW3 := Lib.hid hW3
  clear hW3 hV3 HN2 HR2
  have HN3 := Lib.hid hM3
  have HR3 := Lib.hid hS3
  clear hN3 hR3 hM3 hS3
  refine cG.out.mono ?_
  rintro e w1 ⟨rfl, hw1⟩
  rw [hw1]
  clear hw1
  go_wp2_with fail
  rw [HW3.out]
  clear HW3 a0 a1 a2 a3 a4 z0 z1 z2 z3 z4
  clear cG
  by_cases g11 : l.length < 11
  · have HNo := Lib.hid (HBad.out (.inr (.inr (.inl (by omega)))))
    have cB := Lib.hid (next_bad b (l.drop 8) 3 W3 HR3.out (by rw [List.length_drop]; omega))
    refine cB.out.mono ?_
    rintro e w1 ⟨rfl, hw1⟩
    rw [hw1]
    clear hw1
    go_wp2
    exact ⟨rfl, HQ.out _ _ ⟨HN3.out.exc, .inl ⟨HNo.out, rfl⟩⟩⟩
  have cG := Lib.hid (next_ok b (l.drop 8) 3 W3 HR3.out (by rw [List.length_drop]; omega))
  rw [List.drop_drop, show 8 + 3 = 11 from rfl] at cG
  have hN4 := HN3.out.setB (.string (S (l.drop 11)))
  have hR4 := HR3.out.set (l.drop 11)
  obtain ⟨V4, hV4⟩ : ∃ V, W3.setCell ⟨b, 0, none⟩ (.string (S (l.drop 11))) = V := ⟨_, rfl⟩
  rw [hV4] at hN4 hR4 cG
  obtain ⟨⟨a0, a1, a2, a3, a4⟩, ⟨z0, z1, z2, z3, z4⟩⟩ := hN4.cells
  have hM4 := hN4.setLang (S ((l.drop 8).take 3))
  obtain ⟨W4, hW4⟩ : ∃ W, V4.setCell ⟨w.heap.size + 1, 3, none⟩ (.string (S ((l.drop 8).take 3))) = W := ⟨_, rfl⟩
  have hS4 := hR4.same (w' := W4) (by rw [← hW4]; exact heap_set_ne _ _ _ _ (by show b ≠ w.heap.size + 1; omega))
  rw [hW4] at hM4
  have HW4 := Lib.hid hW4
  clear hW4 hV4 HN3 HR3
  have HN4 := Lib.hid hM4
  have HR4 := Lib.hid hS4
  clear hN4 hR4 hM4 hS4
  refine cG.out.mono ?_
  rintro e w1 ⟨rfl, hw1⟩
  rw [hw1]
  clear hw1
  go_wp2_with fail
  rw [HW4.out]
  clear HW4 a0 a1 a2 a3 a4 z0 z1 z2 z3 z4
  clear cG
  by_cases g16 : l.length < 16
  · have HNo := Lib.hid (HBad.out (.inr (.inr (.inl (by omega)))))
    have cB := Lib.hid (next_bad b (l.drop 11) 5 W4 HR4.out (by rw [List.length_drop]; omega))
    refine cB.out.mono ?_
    rintro e w1 ⟨rfl, hw1⟩
    rw [hw1]
    clear hw1
    go_wp2
    exact ⟨rfl, HQ.out _ _ ⟨HN4.out.exc, .inl ⟨HNo.out, rfl⟩⟩⟩
  have cG := Lib.hid (next_ok b (l.drop 11) 5 W4 HR4.out (by rw [List.length_drop]; omega))
  rw [List.drop_drop, show 11 + 5 = 16 from rfl] at cG
  have hN5 := HN4.out.setB (.string (S (l.drop 16)))
  have hR5 := HR4.out.set (l.drop 16)
  obtain ⟨W5, hV5⟩ : ∃ V, W4.setCell ⟨b, 0, none⟩ (.string (S (l.drop 16))) = V := ⟨_, rfl⟩
  rw [hV5] at hN5 hR5 cG
  refine cG.out.mono ?_
  rintro e w1 ⟨rfl, hw1⟩
  rw [hw1]
  clear hw1 hV5 HN4 HR4
  have HN5 := Lib.hid hN5
  have HR5 := Lib.hid hR5
  clear hN5 hR5
  go_wp2_with fail
  clear cG
  by_cases g20 : numOk (l.drop 16) 4 = false
  · have HNo := Lib.hid (HBad.out (.inr (.inr (.inr (.inl g20)))))
    have cB := Lib.hid (number_bad b (l.drop 16) 4 W5 HR5.out (by decide) g20)
    refine cB.out.mono ?_
    rintro e w1 ⟨rfl, hw1⟩
    have HX : RowKit.Hid (Exc b w.heap.size w w1) := by
      rcases hw1 with rfl | rfl
      · exact HN5.out.exc
      · exact (HN5.out.setB _).exc
    clear hw1
    go_wp2
    exact ⟨rfl, HQ.out _ _ ⟨HX.out, .inl ⟨HNo.out, rfl⟩⟩⟩
  have cG := Lib.hid (number_ok b (l.drop 16) 4 W5 HR5.out (by decide) (by simpa using g20))
  rw [List.drop_drop, show 16 + 4 = 20 from rfl] at cG
  have hN6 := HN5.out.setB (.string (S (l.drop 20)))
  have hR6 := HR5.out.set (l.drop 20)
  obtain ⟨V6, hV6⟩ : ∃ V, W5.setCell ⟨b, 0, none⟩ (.string (S (l.drop 20))) = V := ⟨_, rfl⟩
  rw [hV6] at hN6 hR6 cG
  obtain ⟨⟨a0, a1, a2, a3, a4⟩, ⟨z0, z1, z2, z3, z4⟩⟩ := hN6.cells
  have hM6 := hN6.setId ((numOf (l.drop 16) 4 : Nat) : Int)
  obtain ⟨W6, hW6⟩ : ∃ W, V6.setCell ⟨w.heap.size + 1, 0, none⟩ (.int .i64 ((numOf (l.drop 16) 4 : Nat) : Int)) = W := ⟨_, rfl⟩
  have hS6 := hR6.same (w' := W6) (by rw [← hW6]; exact heap_set_ne _ _ _ _ (by show b ≠ w.heap.size + 1; omega))
  rw [hW6] at hM6
  have HW6 := Lib.hid hW6
  clear hW6 hV6 HN5 HR5
  have HN6 := Lib.hid hM6
  have HR6 := Lib.hid hS6
  clear hN6 hR6 hM6 hS6
  refine cG.out.mono ?_
  rintro e w1 ⟨rfl, hw1⟩
  rw [hw1]
  clear hw1
  go_wp2_with fail
  rw [HW6.out]
  clear HW6 a0 a1 a2 a3 a4 z0 z1 z2 z3 z4
  clear cG
  by_cases g24 : l.length < 24
  · have HNo := Lib.hid (HBad.out (.inr (.inr (.inr (.inr (by omega))))))
    have cB := Lib.hid (next_bad b (l.drop 20) 4 W6 HR6.out (by rw [List.length_drop]; omega))
    refine cB.out.mono ?_
    rintro e w1 ⟨rfl, hw1⟩
    rw [hw1]
    clear hw1
    go_wp2
    exact ⟨rfl, HQ.out _ _ ⟨HN6.out.exc, .inl ⟨HNo.out, rfl⟩⟩⟩
  have cG := Lib.hid (next_ok b (l.drop 20) 4 W6 HR6.out (by rw [List.length_drop]; omega))
  rw [List.drop_drop, show 20 + 4 = 24 from rfl] at cG
  have hN7 := HN6.out.setB (.string (S (l.drop 24)))
  have hR7 := HR6.out.set (l.drop 24)
  obtain ⟨W7, hV7⟩ : ∃ V, W6.setCell ⟨b, 0, none⟩ (.string (S (l.drop 24))) = V := ⟨_, rfl⟩
  rw [hV7] at hN7 hR7 cG
  refine cG.out.mono ?_
  rintro e w1 ⟨rfl, hw1⟩
  rw [hw1]
  clear hw1 hV7 HN6 HR6
  have HN7 := Lib.hid hN7
  have HR7 := Lib.hid hR7
  clear hN7 hR7
  go_wp2_with fail
  clear cG
  have cF := Lib.hid (fields_any b (l.drop 24) W7 (fun W hW => HE.out W (HN7.out.exc.bel.trans hW)) HR7.out (by rw [List.length_drop]; omega))
  have HRes := Lib.hid (HGood.out (by
    intro g
    rcases g with g | g | g | g | g
    · omega
    · exact g8 g
    · omega
    · exact g20 g
    · omega))
  refine cF.out.mono ?_
  rintro e w1 ⟨hx, hres⟩
  have hn1 := HN7.out.step hx
  rcases hres with ⟨hn, rfl⟩ | ⟨F, u, hs, rfl, hnew⟩
  · have HNo : RowKit.Hid (recE l = none) := by
      unfold RowKit.Hid
      rw [HRes.out, hn]
      rfl
    have HN1 := Lib.hid hn1
    clear hn hx hn1
    go_wp2
    exact ⟨rfl, HQ.out _ _ ⟨HN1.out.exc, .inl ⟨HNo.out, rfl⟩⟩⟩
  have HSome : RowKit.Hid (recE l = some ⟨(numOf (l.drop 16) 4 : Nat), (numOf (l.drop 7) 1 : Nat), kindE (l.getD 6 0), (l.drop 8).take 3, F⟩) := by
    unfold RowKit.Hid
    rw [HRes.out, hs]
    rfl
  obtain ⟨au, cu, hu, _⟩ := hnew.here.length
  subst hu
  obtain ⟨⟨a0, a1, a2, a3, a4⟩, ⟨z0, z1, z2, z3, z4⟩⟩ := hn1.cells
  have hn2 := hn1.setFields (.slice au F.length cu)
  have hnew2 : New (w.heap.size + 2) (FL (.slice au F.length cu) F) (w1.setCell ⟨w.heap.size + 1, 4, none⟩ (.slice au F.length cu)) :=
    (hnew.mono HN7.out.size).on (by simp) (fun i hi _ => heap_set_ne _ _ _ _ (by show i ≠ w.heap.size + 1; omega))
  obtain ⟨⟨r0, r1, r2, r3, r4⟩, ⟨y0, y1, y2, y3, y4⟩⟩ := rcells hn2.r
  obtain ⟨⟨b0, b1, b2, b3, b4⟩, -⟩ := hn2.cells
  obtain ⟨hfin, hnw, hexc⟩ := hn2.ret F hnew2
  obtain ⟨W8, hW8⟩ : ∃ W, w1.setCell ⟨w.heap.size + 1, 4, none⟩ (.slice au F.length cu) = W := ⟨_, rfl⟩
  rw [hW8] at r0 r1 r2 r3 r4 y0 y1 y2 y3 y4 b0 b1 b2 b3 b4 hfin hnw hexc
  have HW8 := Lib.hid hW8
  clear hW8 hn2 hnew2 hx hs hnew hn1 HRes HBad HGood
  go_upto_region 10 with fail
  rw [HW8.out]
  clear a0 a1 a2 a3 a4 z0 z1 z2 z3 z4
  go_wp2
  refine bodyPost_ret (results_cell_row rfl _ _ w.heap.size _ _ _ _ rfl hfin.out Tryd.underlying24 rfl (by kernel_rfl)) rfl ?_
  exact HQ.out _ _ ⟨hexc.out, .inr ⟨_, _, HSome.out, rfl, hnw.out⟩⟩
end

end Go.Proofs.YtiledacfdaenbaaDoor
