/- Merged: FQ11, Rj11, Rl11. -/
import Derived.Test.YtnfallkeicehiaaDoorQ28
import Derived.Test.YtnfallkeicehiaaDoorQ13
import Derived.Test.YtnfallkeicehiaaDoorQ26
import Derived.Test.YtnfallkeicehiaaDoorQ07
import Derived.Test.YtnfallkeicehiaaDoorQ19
namespace Go.Proofs.YtnfallkeicehiaaDoor

section
open Go.RowKit Go.PlainAid
theorem QL.newB {B : Nat} {v : Value} {L : List Sub} {w : World} (h : w.ownsRow B 45 2 v L.length (cellsL L)) : New B (QL v L) w := fun _ _ hb => QL.of_row (own_same h hb)
set_option maxHeartbeats 16000000 in
set_option maxRecDepth 100000 in
theorem fParseN_any (s : List UInt8) (hs : s.length ≤ 1000000) (w : World) (hE : Env w) (f : Fld) (er : Int) (h : parseR s = (f, er)) :
    Calls Tryd.prog 32 #[.string (S s)] w fun e w' => ∃ v, e = .returned (.tuple #[FV f v, .int .i64 er]) ∧ New w.heap.size (QL v f.subs) w' ∧ Below w.heap.size w w' := by
  have hR0 : (w.alloc (.cells #[.string ⟨#[]⟩, .string ⟨#[]⟩, .slice none 0 0, .int .i64 0] 43)).heap[w.heap.size]? = some (.cells #[.string ⟨#[]⟩, .string ⟨#[]⟩, .slice none 0 0, .int .i64 0] 43 (0, 0)) := heap_alloc_new w _
  have b0 : Below w.heap.size w (w.alloc (.cells #[.string ⟨#[]⟩, .string ⟨#[]⟩, .slice none 0 0, .int .i64 0] 43)) := (Below.refl w.heap.size w).alloc (Nat.le_refl _) _
  have hlt0 : w.heap.size < (w.alloc (.cells #[.string ⟨#[]⟩, .string ⟨#[]⟩, .slice none 0 0, .int .i64 0] 43)).heap.size := by simp
  have cR := Lib.hid (read_any s hs _ (hE.after b0))
  obtain ⟨Q, hQ⟩ : ∃ Q, (fun (e : Ending) (w' : World) => ∃ v, e = .returned (.tuple #[FV f v, .int .i64 er]) ∧ New w.heap.size (QL v f.subs) w' ∧ Below w.heap.size w w') = Q := ⟨_, rfl⟩
  rw [hQ]
  have HQ : RowKit.Hid (∀ e w', (∃ v, e = .returned (.tuple #[FV f v, .int .i64 er]) ∧ New w.heap.size (QL v f.subs) w' ∧ Below w.heap.size w w') → Q e w') := by rw [← hQ]; exact fun _ _ h => h
  clear hQ
  have H := Lib.hid h
  clear h
  obtain ⟨hn17, hle⟩ := readP_le s
  obtain ⟨f0, hf0⟩ : ∃ f0, readP s = f0 := ⟨_, rfl⟩
  have HSome := Lib.hid (readP_some s)
  have HNone := Lib.hid (readP_none s)
  rw [hf0] at cR hle HSome HNone
  obtain ⟨pr, hpr⟩ : ∃ pr, printR f0 = pr := ⟨_, rfl⟩
  obtain ⟨r, pe⟩ := pr
  have HEnv := Lib.hid (fun W (h : Below w.heap.size w W) => hE.after h)
  have cP := Lib.hid (fun u W hE hq => fPrint_any f0 u W hE hq (fun i hi => by have := hle i hi; omega) r pe hpr)
  clear hle hn17 hf0 hE
  obtain ⟨st, hst⟩ : ∃ st, S s = st := ⟨_, rfl⟩
  rw [hst] at cR ⊢
  have HST := Lib.hid hst
  clear hst
  unfold FV at cR
  go_enter Tryd.func32, Tryd.ntmps32
  go_wp2_with fail
  refine cR.out.mono ?_
  rintro e w1 ⟨v, rfl, hown, hb⟩
  obtain ⟨ao, cp, rfl⟩ := own_form hown
  obtain ⟨n, hn⟩ : ∃ n, f0.subs.length = n := ⟨_, rfl⟩
  have hR1 := (hb.block w.heap.size hlt0).trans hR0
  have hb1 := b0.trans (hb.mono (Nat.le_of_lt hlt0))
  have hlt1 : w.heap.size < w1.heap.size := Nat.lt_of_lt_of_le hlt0 hb.size
  have hR2 : (w1.alloc (.cells #[.string (S f0.tag), .string (S f0.ind), .slice ao f0.subs.length cp, .int .i64 f0.auth] 43)).heap[w.heap.size]? = some (.cells #[.string ⟨#[]⟩, .string ⟨#[]⟩, .slice none 0 0, .int .i64 0] 43 (0, 0)) := (Below.heap_alloc _ _ _ hlt1).trans hR1
  have hF2 : (w1.alloc (.cells #[.string (S f0.tag), .string (S f0.ind), .slice ao f0.subs.length cp, .int .i64 f0.auth] 43)).heap[w1.heap.size]? = some (.cells #[.string (S f0.tag), .string (S f0.ind), .slice ao f0.subs.length cp, .int .i64 f0.auth] 43 (0, 0)) := heap_alloc_new w1 _
  have hb2 := hb1.alloc (Nat.le_of_lt hlt1) (.cells #[.string (S f0.tag), .string (S f0.ind), .slice ao f0.subs.length cp, .int .i64 f0.auth] 43)
  have hown2 := hown.alloc (.cells #[.string (S f0.tag), .string (S f0.ind), .slice ao f0.subs.length cp, .int .i64 f0.auth] 43)
  have hlt2 : w1.heap.size < (w1.alloc (.cells #[.string (S f0.tag), .string (S f0.ind), .slice ao f0.subs.length cp, .int .i64 f0.auth] 43)).heap.size := by simp
  have cP2 := Lib.hid (cP.out _ _ (HEnv.out _ hb2) (QL.of_row hown2))
  unfold FV at cP2
  obtain ⟨w2, hw2⟩ : ∃ w2, w1.alloc (.cells #[.string (S f0.tag), .string (S f0.ind), .slice ao f0.subs.length cp, .int .i64 f0.auth] 43) = w2 := ⟨_, rfl⟩
  rw [hw2] at cP2 hown2 hR2 hF2 hb2 hlt2
  have HW2 := Lib.hid hw2
  have HR2 := Lib.hid hR2
  have HF2 := Lib.hid hF2
  have HB2 := Lib.hid hb2
  have HOwn2 := Lib.hid hown2
  clear hR1 hb1 hR0 b0 hb hb2 hown hown2 hR2 hF2 hw2 cP hn
  go_wp2_with fail
  rw [HW2.out]
  refine cP2.out.mono ?_
  rintro e w3 ⟨rfl, b3⟩
  have hR3 := (b3.block w.heap.size (by omega)).trans HR2.out
  have hF3 := (b3.block w1.heap.size hlt2).trans HF2.out
  have HOwn3 := Lib.hid (own_after HOwn2.out b3)
  have HB3 := Lib.hid (HB2.out.trans (b3.mono (by omega)))
  clear b3 cP2
  have hq := S_eq r s
  rw [HST.out] at hq
  by_cases hok : rightI f0 = 0 ∧ lineL f0 = s
  · have hP : parseR s = (f0, 0) := by
      unfold parseR
      rw [HSome.out hok]
    have hH := H.out
    rw [hP] at hH
    obtain ⟨rfl, rfl⟩ := Prod.mk.inj hH
    unfold printR at hpr
    rw [if_pos hok.1] at hpr
    obtain ⟨hr1, rfl⟩ := Prod.mk.inj hpr
    rw [← hr1, hok.2, decide_eq_true rfl, HST.out] at hq
    rw [← hr1, hok.2, HST.out]
    obtain ⟨⟨q0, q1, q2, q3⟩, p0, p1, p2, p3⟩ := field_cells hF3
    obtain ⟨⟨r0, r1, r2, r3⟩, g0, g1, g2, g3⟩ := field_cells hR3
    have hfin := Lib.hid (field_set (x0 := .string (S f0.tag)) (x1 := .string (S f0.ind)) (x2 := .slice ao f0.subs.length cp) (x3 := .int .i64 f0.auth) hR3)
    have Fin := Lib.hid ((((HB3.out.setCell (p := ⟨w.heap.size, 0, none⟩) (Nat.le_refl _) (.string (S f0.tag))).setCell (p := ⟨w.heap.size, 1, none⟩) (Nat.le_refl _) (.string (S f0.ind))).setCell (p := ⟨w.heap.size, 2, none⟩) (Nat.le_refl _) (.slice ao f0.subs.length cp)).setCell (p := ⟨w.heap.size, 3, none⟩) (Nat.le_refl _) (.int .i64 f0.auth))
    have hB' : ∀ k, k < 4 → (⟨w.heap.size, k, none⟩ : Addr).block < (w.alloc (.cells #[.string ⟨#[]⟩, .string ⟨#[]⟩, .slice none 0 0, .int .i64 0] 43)).heap.size := fun k _ => hlt0
    have hNq := QL.newB (own_setCell (own_setCell (own_setCell (own_setCell HOwn3.out (hB' 0 (by decide)) (.string (S f0.tag))) (hB' 1 (by decide)) (.string (S f0.ind))) (hB' 2 (by decide)) (.slice ao f0.subs.length cp)) (hB' 3 (by decide)) (.int .i64 f0.auth))
    have HQL := Lib.hid (hNq.mono (Nat.le_of_lt hlt0))
    clear hNq
    clear hB' hok hP hH hpr hr1 hR3 hF3
    go_wp2
    (try simp only [Exit.inBlock, Exit.then])
    refine bodyPost_ret (results_row_tmp rfl _ _ w.heap.size _ _ _ _ rfl hfin.out Tryd.underlying43 rfl (by kernel_rfl)) rfl ?_
    exact HQ.out _ _ ⟨_, rfl, HQL.out, Fin.out⟩
  · have hP : parseR s = (fld0, 3) := by
      unfold parseR
      rw [HNone.out hok]
    have hH := H.out
    rw [hP] at hH
    obtain ⟨rfl, rfl⟩ := Prod.mk.inj hH
    have hcase : pe ≠ 0 ∨ (pe = 0 ∧ r ≠ s) := by
      unfold printR at hpr
      by_cases h0 : rightI f0 = 0
      · rw [if_pos h0] at hpr
        obtain ⟨hr1, rfl⟩ := Prod.mk.inj hpr
        exact .inr ⟨rfl, fun e => hok ⟨h0, hr1.trans e⟩⟩
      · rw [if_neg h0] at hpr
        obtain ⟨_, rfl⟩ := Prod.mk.inj hpr
        exact .inl h0
    obtain ⟨⟨r0, r1, r2, r3⟩, g0, g1, g2, g3⟩ := field_cells hR3
    have hfin := Lib.hid (field_set (x0 := .string ⟨#[]⟩) (x1 := .string ⟨#[]⟩) (x2 := .slice none 0 0) (x3 := .int .i64 0) hR3)
    have Fin := Lib.hid ((((HB3.out.setCell (p := ⟨w.heap.size, 0, none⟩) (Nat.le_refl _) (.string ⟨#[]⟩)).setCell (p := ⟨w.heap.size, 1, none⟩) (Nat.le_refl _) (.string ⟨#[]⟩)).setCell (p := ⟨w.heap.size, 2, none⟩) (Nat.le_refl _) (.slice none 0 0)).setCell (p := ⟨w.heap.size, 3, none⟩) (Nat.le_refl _) (.int .i64 0))
    clear hok hP hH hpr hR3 hF3
    rcases hcase with h0 | ⟨rfl, hne⟩
    · have t0 : (pe != 0) = true := by simpa using h0
      clear hq
      go_wp2
      (try simp only [Exit.inBlock, Exit.then])
      refine bodyPost_ret (results_row_tmp rfl _ _ w.heap.size _ _ _ _ rfl hfin.out Tryd.underlying43 rfl (by kernel_rfl)) rfl ?_
      exact HQ.out _ _ ⟨_, rfl, fun _ _ _ => ⟨Option.none, 0, rfl, Nat.le_refl _, Nat.zero_le _, fun _ => rfl, fun i hi => by cases hi⟩, Fin.out⟩
    · rw [decide_eq_false hne] at hq
      clear hne
      generalize S r = sr at *
      go_wp2
      (try simp only [Exit.inBlock, Exit.then])
      refine bodyPost_ret (results_row_tmp rfl _ _ w.heap.size _ _ _ _ rfl hfin.out Tryd.underlying43 rfl (by kernel_rfl)) rfl ?_
      exact HQ.out _ _ ⟨_, rfl, fun _ _ _ => ⟨Option.none, 0, rfl, Nat.le_refl _, Nat.zero_le _, fun _ => rfl, fun i hi => by cases hi⟩, Fin.out⟩
end

section
open Go.RowKit Go.PlainAid
theorem encF_oneB (f : Fld) (u : Value) (h : u.oneCell' = true) : ∀ x ∈ encF f u, x.oneCell' = true := by
  intro x hx
  simp only [encF, List.mem_cons, List.not_mem_nil, or_false] at hx
  rcases hx with rfl | rfl | rfl | rfl
  · rfl
  · rfl
  · exact h
  · rfl
theorem rec_put4B {w : World} {g : Nat} {a b c d e : Value} (h : w.heap[g]? = some (.cells #[a, b, c, d, e] 24 (0, 0))) (x : Value) : (w.setCell ⟨g, 4, none⟩ x).heap[g]? = some (.cells #[a, b, c, d, x] 24 (0, 0)) := by simp [World.setCell, Array.getElem?_modify, h]
/-- The length of the text that a reader has left. -/
def rdN (b : Nat) (w : World) : Nat := match w.heap[b]? with
  | some (.cells cs _ _) => strL (cs.getD 0 undef)
  | _ => 0
theorem rdN_of {b k : Nat} {l : List UInt8} {w : World} (h : Rd b l k w) : rdN b w = l.length := by
  unfold rdN
  rw [h]
  show (S l).size = _
  exact S_size l
/-- What lies in memory while a record is read: the result's place behind w, the reader. -/
structure RdZ (w : World) (b : Nat) (l : List UInt8) (a : Nat) (wr : World) : Prop where
  z : wr.heap[w.heap.size]? = some (.cells #[.int .i64 0, .int .i64 0, .int .i64 0, .string ⟨#[]⟩, .slice none 0 0] 24 (0, 0))
  rd : Rd b l a wr
  bl : b < w.heap.size
  up : Up b w wr
section
variable {w wr w3 : World} {b a a2 : Nat} {l l2 : List UInt8}
theorem RdZ.lt (h : RdZ w b l a wr) : w.heap.size < wr.heap.size := (Array.getElem?_eq_some_iff.1 h.z).1
theorem RdZ.after (h : RdZ w b l a wr) (hb : Below wr.heap.size wr w3) : RdZ w b l a w3 := ⟨(hb.block w.heap.size h.lt).trans h.z, h.rd.after hb, h.bl, h.up.trans (Up.of hb)⟩
theorem RdZ.next (h : RdZ w b l a wr) (hr : Rd b l2 a2 w3) (hu : Up b wr w3) : RdZ w b l2 a2 w3 := by
  have hb := h.bl
  have h1 := hu.block w.heap.size h.lt (by omega)
  exact ⟨h1.trans h.z, hr, hb, h.up.trans hu⟩
/-- The result's place filled. -/
theorem RdZ.fin {x0 x1 x2 x3 x4 : Value} (h : RdZ w b l a wr) :
    (setR5 wr w.heap.size x0 x1 x2 x3 x4).heap[w.heap.size]? = some (.cells #[x0, x1, x2, x3, x4] 24 (0, 0)) ∧
    Up b w (setR5 wr w.heap.size x0 x1 x2 x3 x4) ∧ Rd b l a (setR5 wr w.heap.size x0 x1 x2 x3 x4) ∧
    ∀ P, New (w.heap.size + 1) P wr → New w.heap.size P (setR5 wr w.heap.size x0 x1 x2 x3 x4) := by
  have hB : Below w.heap.size wr (setR5 wr w.heap.size x0 x1 x2 x3 x4) := rec_below (Below.refl w.heap.size wr)
  refine ⟨rec_set5 h.z, ⟨hB.os.trans h.up.os, hB.tape.trans h.up.tape, hB.output.trans h.up.output, Nat.le_trans h.up.size hB.size, fun i hi hne => (hB.block i hi).trans (h.up.block i hi hne)⟩, ?_, fun P hP => (hP.on hB.size (fun i hi _ => rec_other i (by omega))).mono (by omega)⟩
  exact (rec_other b (by have := h.bl; omega)).trans h.rd
end
/-- And the record's box, and a row of fields behind it. -/
structure RdL (w : World) (b bx : Nat) (q : Rec) (l : List UInt8) (a : Nat) (fv : Value) (F : List Fld) (wr : World) : Prop where
  z : RdZ w b l a wr
  f : wr.heap[bx]? = some (.cells #[.int .i64 q.id, .int .i64 q.ver, .int .i64 q.kind, .string (S q.lang), fv] 24 (0, 0))
  hb : w.heap.size + 1 ≤ bx
  row : FN (bx + 1) fv F wr
section
variable {w wr w3 : World} {b bx a a2 : Nat} {q : Rec} {l l2 : List UInt8} {fv : Value} {F : List Fld}
theorem RdL.lt (h : RdL w b bx q l a fv F wr) : bx + 1 ≤ wr.heap.size := (Array.getElem?_eq_some_iff.1 h.f).1
theorem RdL.after (h : RdL w b bx q l a fv F wr) (hb : Below wr.heap.size wr w3) : RdL w b bx q l a fv F w3 :=
  ⟨h.z.after hb, (hb.block _ h.lt).trans h.f, h.hb, h.row.on hb.size (fun i _ hi => hb.block i hi)⟩
theorem RdL.next (h : RdL w b bx q l a fv F wr) (hr : Rd b l2 a2 w3) (hu : Up b wr w3) : RdL w b bx q l2 a2 fv F w3 :=
  have hb := h.hb
  have hl := h.z.bl
  ⟨h.z.next hr hu, (hu.block _ h.lt (by omega)).trans h.f, hb, h.row.on hu.size (fun i hi hk => hu.block i hk (by omega))⟩
theorem RdL.push {f : Fld} {fv2 : Value} (h : RdL w b bx q l a fv F wr) (hg : wr.grownBy w3 fv.ownBlock) (hrow : FN (bx + 1) fv2 (F ++ [f]) w3) :
    RdL w b bx q l a fv2 (F ++ [f]) (w3.setCell ⟨bx, 4, none⟩ fv2) ∧ w3.heap[bx]? = some (.cells #[.int .i64 q.id, .int .i64 q.ver, .int .i64 q.kind, .string (S q.lang), fv] 24 (0, 0)) := by
  have hb := h.hb
  have hl := h.lt
  have hbl := h.z.bl
  obtain ⟨us, _, hown, _⟩ := h.row
  have ho := fun k hk => (World.ownsRow.lt hown k hk).1
  have hk : ∀ i, i ≤ bx → w3.heap[i]? = wr.heap[i]? := fun i hi => hg.block i (by omega) (fun e => by have := ho _ e.symm; omega)
  have hf := (hk bx (Nat.le_refl _)).trans h.f
  have hu := h.z.up
  have hgs := hg.size
  refine ⟨⟨⟨?_, ?_, hbl, ?_⟩, rec_put4B hf _, hb, hrow.on (by simp) (fun i hi _ => heap_setn w3 _ _ _ (by show i ≠ bx; omega))⟩, hf⟩
  · exact (heap_setn w3 _ _ _ (by show w.heap.size ≠ bx; omega)).trans ((hk _ (by omega)).trans h.z.z)
  · exact (heap_setn w3 _ _ _ (by show b ≠ bx; omega)).trans ((hk _ (by omega)).trans h.z.rd)
  · have hbel : Below w.heap.size w3 (w3.setCell ⟨bx, 4, none⟩ fv2) := (Below.refl _ w3).setCell (p := ⟨bx, 4, none⟩) (by show w.heap.size ≤ bx; omega) _
    have hgb : Below w.heap.size wr w3 := (Below.refl w.heap.size wr).grown hg (by omega) (fun k hk => by have := ho k hk; omega)
    have h2 := hgb.trans hbel
    exact ⟨h2.os.trans hu.os, h2.tape.trans hu.tape, h2.output.trans hu.output, Nat.le_trans hu.size h2.size, fun i hi hne => (h2.block i hi).trans (hu.block i hi hne)⟩
theorem RdL.newF (h : RdL w b bx q l a fv F wr) : New (w.heap.size + 1) (FL fv F) wr := h.row.new.mono (by have := h.hb; omega)
end

set_option maxHeartbeats 16000000 in
set_option maxRecDepth 100000 in
theorem record_any (Wb : World) (hE : Env Wb) (b : Nat) (hbB : Wb.heap.size ≤ b) (l : List UInt8) (hl : l.length ≤ 1000000) (k : Nat) (hk : k ≤ 100000000) (w : World) (hB : Below Wb.heap.size Wb w) (h : Rd b l k w)
    (q : Rec) (t : List UInt8) (m : Nat) (er : Int) (ho : oneP l (k + 1) = (q, t, m, er)) :
    Calls Tryd.prog 21 #[.pointer (some ⟨b, 0, none⟩)] w fun e w' => ∃ u, e = .returned (.tuple #[RV q u, .int .i64 er]) ∧ New w.heap.size (FL u q.fields) w' ∧ Up b w w' ∧
      ∃ l' k', Rd b l' k' w' ∧ (er = 0 → l' = t ∧ k' + 1 = m ∧ k' + t.length ≤ k + l.length) ∧ (er ≠ 0 → k' = m) := by
  obtain ⟨Q, hQ⟩ : ∃ Q, (fun (e : Ending) (w' : World) => ∃ u, e = .returned (.tuple #[RV q u, .int .i64 er]) ∧ New w.heap.size (FL u q.fields) w' ∧ Up b w w' ∧
      ∃ l' k', Rd b l' k' w' ∧ (er = 0 → l' = t ∧ k' + 1 = m ∧ k' + t.length ≤ k + l.length) ∧ (er ≠ 0 → k' = m)) = Q := ⟨_, rfl⟩
  rw [hQ]
  have HErr : RowKit.Hid (∀ (t1 : List UInt8) (a : Nat) (e : Int), e ≠ 0 → oneP l (k + 1) = (rec0, t1, a, e) → ∀ l' W, Up b w W → Rd b l' a W → Q (.returned (.tuple #[.agg #[.int .i64 0, .int .i64 0, .int .i64 0, .string ⟨#[]⟩, .slice none 0 0], .int .i64 e])) W) := by
    intro t1 a e he h l' W hU hR
    rw [h] at ho
    obtain ⟨rfl, h2⟩ := Prod.mk.inj ho
    obtain ⟨rfl, h3⟩ := Prod.mk.inj h2
    obtain ⟨rfl, rfl⟩ := Prod.mk.inj h3
    rw [← hQ]
    exact ⟨.slice none 0 0, rfl, fl_none _ _, hU, l', _, hR, fun h0 => absurd h0 he, fun _ => rfl⟩
  have HYes : RowKit.Hid (∀ (r : Rec) (t1 : List UInt8) (a : Nat) (u : Value), oneP l (k + 1) = (r, t1, a + 1, 0) → a + t1.length ≤ k + l.length → ∀ W, New w.heap.size (FL u r.fields) W → Up b w W → Rd b t1 a W → Q (.returned (.tuple #[.agg #[.int .i64 r.id, .int .i64 r.ver, .int .i64 r.kind, .string (S r.lang), u], .int .i64 0])) W) := by
    intro r t1 a u h hle W hN hU hR
    rw [h] at ho
    obtain ⟨rfl, h2⟩ := Prod.mk.inj ho
    obtain ⟨rfl, h3⟩ := Prod.mk.inj h2
    obtain ⟨rfl, rfl⟩ := Prod.mk.inj h3
    rw [← hQ]
    exact ⟨u, rfl, hN, hU, _, _, hR, fun _ => ⟨rfl, rfl, hle⟩, fun h0 => absurd rfl h0⟩
  clear ho hQ
  obtain ⟨W0, hW0⟩ : ∃ W0, w.alloc (.cells #[.int .i64 0, .int .i64 0, .int .i64 0, .string ⟨#[]⟩, .slice none 0 0] 24) = W0 := ⟨_, rfl⟩
  have hA0 : Below w.heap.size w W0 := by rw [← hW0]; exact (Below.refl _ _).alloc (Nat.le_refl _) _
  have hZ0 : RdZ w b l k W0 := ⟨by rw [← hW0]; exact heap_alloc_new w _, h.after hA0, h.lt, Up.of hA0⟩
  have HZ0 := Lib.hid hZ0
  have HW0 := Lib.hid hW0
  have HBW := Lib.hid (fun W (hu : Up b w W) => hu.below hB (Nat.le_trans hbB (Nat.le_of_lt h.lt)) hbB)
  have HEW := Lib.hid (fun W (hu : Up b w W) => hE.after (hu.below hB (Nat.le_trans hbB (Nat.le_of_lt h.lt)) hbB))
  have HNx := Lib.hid (fun (l1 : List UInt8) (h1 : l1.length ≤ 1000000) (a : Nat) (ha : a ≤ 1000000000) W (hu : Up b w W) (hr : Rd b l1 a W) => next_any Wb hE b l1 h1 a ha W (hu.below hB (Nat.le_trans hbB (Nat.le_of_lt h.lt)) hbB) hr)
  obtain ⟨q0, b0, hq0⟩ : ∃ q b, hdrV (lnL l) = (q, b) := ⟨_, _, rfl⟩
  have HQ0 := Lib.hid hq0
  have hll : ∀ s : List UInt8, (lnL s).length ≤ s.length := by
    intro s
    cases e : lnE s
    · rw [(ln_no _ e).1]; exact Nat.le_refl _
    · have := ln_len _ e
      omega
  have hlr : ∀ s : List UInt8, (lnR s).length ≤ s.length := by
    intro s
    cases e : lnE s
    · rw [(ln_no _ e).2]; exact Nat.zero_le _
    · have := ln_len _ e
      omega
  have cH := Lib.hid (fun W hE => readHeader_any (lnL l) (Nat.le_trans (hll l) hl) q0 b0 hq0 W hE)
  have HLL := Lib.hid hll
  have HLR := Lib.hid hlr
  have c1 := Lib.hid (HNx.out l hl k (by omega) W0 hZ0.up hZ0.rd)
  have hlen := Lib.hid hl
  clear hW0 hA0 hZ0 hB hE h hll hlr hq0 hbB hl
  go_enter Tryd.func21, Tryd.ntmps21
  go_upto_region 1 with fail
  rw [HW0.out]
  clear HW0
  go_wp2_with fail
  refine c1.out.mono ?_
  rintro e w1 ⟨rfl, hr1, hu1⟩
  have hZ1 := HZ0.out.next hr1 hu1
  have HZ1 := Lib.hid hZ1
  have cH1 := Lib.hid (cH.out w1 (HEW.out w1 hZ1.up))
  clear hr1 hu1 hZ1 HZ0 c1 cH
  go_wp2_with fail
  refine cH1.out.mono ?_
  rintro e w2 ⟨rfl, hb2⟩
  unfold RV
  have hbx := heap_alloc_new w2 (.cells #[.int .i64 q0.id, .int .i64 q0.ver, .int .i64 q0.kind, .string (S q0.lang), .slice none 0 0] 24)
  have hA := (Below.refl w2.heap.size w2).alloc (Nat.le_refl _) (.cells #[.int .i64 q0.id, .int .i64 q0.ver, .int .i64 q0.kind, .string (S q0.lang), .slice none 0 0] 24)
  obtain ⟨W2, hW2⟩ : ∃ W, w2.alloc (.cells #[.int .i64 q0.id, .int .i64 q0.ver, .int .i64 q0.kind, .string (S q0.lang), .slice none 0 0] 24) = W := ⟨_, rfl⟩
  rw [hW2] at hbx hA
  have hZ2 := (HZ1.out.after hb2).after hA
  have hs2 : w.heap.size + 1 ≤ w2.heap.size := (HZ1.out.after hb2).lt
  obtain ⟨bx, hbb⟩ : ∃ b, w2.heap.size = b := ⟨_, rfl⟩
  rw [hbb] at hbx hs2
  have HZ2 := Lib.hid hZ2
  have HBx := Lib.hid hbx
  have HW2 := Lib.hid hW2
  have HBb := Lib.hid hbb
  clear hb2 hbx hA hZ2 hW2 hbb cH1 HZ1
  go_upto_region 3 with fail
  rw [HW2.out, HBb.out]
  clear HW2 HBb
  by_cases hb : b0 = false ∨ lnE l = false
  · have hone : oneP l (k + 1) = (rec0, l, k + 1, 3) := by
      unfold oneP
      rcases hb with h | h
      · have h2 := HQ0.out
        rw [h] at h2
        unfold hdrV at h2
        cases e : hdrO (lnL l) with
        | none => rfl
        | some r => rw [e] at h2; cases h2
      · cases e : hdrO (lnL l) with
        | none => rfl
        | some r =>
          show (if lnE l = false then _ else _) = _
          rw [if_pos h]
    have hno := HErr.out l (k + 1) 3 (by decide) hone (lnR l)
    have hcase : (lnE l = false) ∨ (lnE l = true ∧ b0 = false) := by
      cases e : lnE l
      · exact .inl rfl
      · rcases hb with h | h
        · exact .inr ⟨rfl, h⟩
        · rw [e] at h; cases h
    clear hone hb HQ0
    have hz := HZ2.out
    generalize lnE l = e0 at *
    rcases hcase with rfl | ⟨rfl, rfl⟩
    · skip
      obtain ⟨fA1, fA2, fA3, fA4⟩ := hz.fin (x0 := .int .i64 0) (x1 := .int .i64 0) (x2 := .int .i64 0) (x3 := .string ⟨#[]⟩) (x4 := .slice Option.none 0 0)
      have FA1 := Lib.hid fA1
      have FA2 := Lib.hid fA2
      have FA3 := Lib.hid fA3
      have FA4 := Lib.hid fA4
      unfold setR5 at FA1 FA2 FA3 FA4
      obtain ⟨⟨r0, r1, r2, r3, r4⟩, rz0, rz1, rz2, rz3, rz4⟩ := rcells hz.z
      clear fA1 fA2 fA3 fA4
      go_wp2
      (try simp only [Exit.inBlock, Exit.then])
      refine bodyPost_ret (results_row_tmp10 rfl _ _ w.heap.size _ _ _ _ rfl FA1.out Tryd.underlying24 rfl (by kernel_rfl)) rfl ?_
      exact hno _ FA2.out FA3.out
    · skip
      obtain ⟨fA1, fA2, fA3, fA4⟩ := hz.fin (x0 := .int .i64 0) (x1 := .int .i64 0) (x2 := .int .i64 0) (x3 := .string ⟨#[]⟩) (x4 := .slice Option.none 0 0)
      have FA1 := Lib.hid fA1
      have FA2 := Lib.hid fA2
      have FA3 := Lib.hid fA3
      have FA4 := Lib.hid fA4
      unfold setR5 at FA1 FA2 FA3 FA4
      obtain ⟨⟨r0, r1, r2, r3, r4⟩, rz0, rz1, rz2, rz3, rz4⟩ := rcells hz.z
      clear fA1 fA2 fA3 fA4
      go_wp2
      (try simp only [Exit.inBlock, Exit.then])
      refine bodyPost_ret (results_row_tmp10 rfl _ _ w.heap.size _ _ _ _ rfl FA1.out Tryd.underlying24 rfl (by kernel_rfl)) rfl ?_
      exact hno _ FA2.out FA3.out
  · have hbt : b0 = true ∧ lnE l = true := by
      constructor
      · cases b0
        · exact absurd (.inl rfl) hb
        · rfl
      · cases e : lnE l
        · exact absurd (.inr e) hb
        · rfl
    obtain ⟨rfl, he0⟩ := hbt
    have hhd : hdrO (lnL l) = some q0 := by
      have h2 := HQ0.out
      unfold hdrV at h2
      cases e : hdrO (lnL l) with
      | none => rw [e] at h2; cases h2
      | some r => rw [e] at h2; rw [(Prod.mk.inj h2).1]
    have HOne : RowKit.Hid (oneP l (k + 1) = oneF q0 (fldsP (lnR l) [] (k + 1 + 1))) := by
      unfold RowKit.Hid
      unfold oneP
      rw [hhd]
      show (if lnE l = false then _ else _) = _
      rw [he0, if_neg (by decide)]
    have hln := ln_len l he0
    have HPL : RowKit.Hid (RdL w b bx q0 (lnR l) (k + 1) (.slice none 0 0) [] W2) := ⟨HZ2.out, HBx.out, hs2, FN.nil _ _⟩
    have hl6 : (lnR l).length ≤ 1000000 := Nat.le_trans (HLR.out l) hlen.out
    obtain ⟨z, hz⟩ : ∃ z, l.length = z := ⟨_, rfl⟩
    have HZl := Lib.hid hz
    rw [hz] at hln HYes
    have hz6 : z ≤ 1000000 := by have := hlen.out; omega
    rw [he0]
    clear hhd he0 hb HZ2 HBx HQ0 hz
    go_wp2
    go_loopw [8] (fun (_ : Value) wr => ∃ (l1 : List UInt8) (c a : Nat) (F : List Fld) (ao : Option Addr) (cp : Nat), RowKit.Hid (l1.length ≤ 1000000) ∧ F.length = c ∧ c ≤ 64 ∧ RowKit.Hid (a + l1.length ≤ k + z) ∧ RowKit.Hid (oneP l (k + 1) = oneF q0 (fldsP l1 F (a + 1))) ∧ RowKit.Hid (RdL w b bx q0 l1 a (.slice ao c cp) F wr)) (fun _ wr => rdN b wr)
    case atStart => exact ⟨lnR l, 0, k + 1, [], none, 0, hl6, rfl, by omega, (show k + 1 + (lnR l).length ≤ k + z by omega), HOne, HPL⟩
    case round =>
      obtain ⟨l1, c, a, F, ao, cp, HL1, hFc, hc64, HAk, HO, HL⟩ := hrel
      clear HPL HOne hln hl6
      have ha9 : a ≤ 1000000000 := by have := HAk.out; omega
      have cN := Lib.hid (HNx.out l1 HL1.out a ha9 wr HL.out.z.up HL.out.z.rd)
      have HM0 := Lib.hid (rdN_of HL.out.z.rd)
      go_wp2_with fail
      refine cN.out.mono ?_
      rintro e w4 ⟨rfl, hr4, hu4⟩
      have hm := HL.out.next hr4 hu4
      have HM := Lib.hid hm
      clear hr4 hu4 cN hm HL
      have hlx : (lnL l1).length ≤ 1000000 := Nat.le_trans (HLL.out l1) HL1.out
      have hly : (lnR l1).length ≤ 1000000 := Nat.le_trans (HLR.out l1) HL1.out
      have HLy := Lib.hid hly
      have HLong := Lib.hid (fun h1 h2 => flds_long l1 F (a + 1) h1 h2)
      have HCut := Lib.hid (fun h1 h2 => flds_cut l1 F (a + 1) h1 h2)
      have HEnd := Lib.hid (fun h1 h2 => flds_end l1 F (a + 1) h1 h2)
      have HBad := Lib.hid (fun h1 h2 h3 h4 => flds_bad l1 F (a + 1) h1 h2 h3 h4)
      have HGo := Lib.hid (fun h1 h2 h3 f h4 => flds_go l1 F (a + 1) h1 h2 h3 f h4)
      have HLn := Lib.hid (ln_len l1)
      rw [hFc] at HLong HCut HBad HGo
      obtain ⟨Lx, hLx⟩ : ∃ x, lnL l1 = x := ⟨_, rfl⟩
      obtain ⟨Ly, hLy⟩ : ∃ x, lnR l1 = x := ⟨_, rfl⟩
      obtain ⟨e2, he2⟩ : ∃ x, lnE l1 = x := ⟨_, rfl⟩
      rw [hLx] at HLong HCut HEnd HBad HGo hlx HLn ⊢
      rw [hLy] at HEnd HGo HM hly HLy HLn
      rw [he2] at HCut HEnd HBad HGo HLn ⊢
      clear hLx he2 hLy hly
      obtain ⟨⟨f0, f1, f2, f3, f4⟩, -⟩ := rcells HM.out.f
      by_cases hL0 : Lx = []
      · subst hL0
        have e0 : S [] = (⟨#[]⟩ : ByteArray) := rfl
        rw [e0]
        cases e2 with
        | false =>
          have HN : RowKit.Hid (oneP l (k + 1) = (rec0, l1, a + 1, 3)) := by
            unfold RowKit.Hid
            rw [HO.out, HCut.out (fun h => h.1 rfl) rfl]
            rfl
          have hno := HErr.out l1 (a + 1) 3 (by decide) HN.out Ly
          have hz := HM.out.z
          clear HLong HCut HEnd HBad HGo HO HN
          obtain ⟨fA1, fA2, fA3, fA4⟩ := hz.fin (x0 := .int .i64 0) (x1 := .int .i64 0) (x2 := .int .i64 0) (x3 := .string ⟨#[]⟩) (x4 := .slice Option.none 0 0)
          have FA1 := Lib.hid fA1
          have FA2 := Lib.hid fA2
          have FA3 := Lib.hid fA3
          have FA4 := Lib.hid fA4
          unfold setR5 at FA1 FA2 FA3 FA4
          obtain ⟨⟨r0, r1, r2, r3, r4⟩, rz0, rz1, rz2, rz3, rz4⟩ := rcells hz.z
          clear fA1 fA2 fA3 fA4
          go_wp2
          (try simp only [Exit.inBlock, Exit.then])
          refine bodyPost_ret (results_row_tmp10 rfl _ _ w.heap.size _ _ _ _ rfl FA1.out Tryd.underlying24 rfl (by kernel_rfl)) rfl ?_
          exact hno _ FA2.out FA3.out
        | true =>
          have HN : RowKit.Hid (oneP l (k + 1) = (⟨q0.id, q0.ver, q0.kind, q0.lang, F⟩, Ly, a + 1 + 1, 0)) := by
            unfold RowKit.Hid
            rw [HO.out, HEnd.out rfl rfl]
            rfl
          have hle : a + 1 + Ly.length ≤ k + z := by
            have h1 := HLn.out rfl
            have h2 := HAk.out
            rw [List.length_nil] at h1
            omega
          have hyes := HYes.out ⟨q0.id, q0.ver, q0.kind, q0.lang, F⟩ Ly (a + 1) (.slice ao c cp) HN.out hle
          have HNw := Lib.hid HM.out.newF
          have hz := HM.out.z
          clear HLong HCut HEnd HBad HGo HO HN hle HLn
          obtain ⟨fA1, fA2, fA3, fA4⟩ := hz.fin (x0 := .int .i64 q0.id) (x1 := .int .i64 q0.ver) (x2 := .int .i64 q0.kind) (x3 := .string (S q0.lang)) (x4 := .slice ao c cp)
          have FA1 := Lib.hid fA1
          have FA2 := Lib.hid fA2
          have FA3 := Lib.hid fA3
          have FA4 := Lib.hid fA4
          unfold setR5 at FA1 FA2 FA3 FA4
          obtain ⟨⟨r0, r1, r2, r3, r4⟩, rz0, rz1, rz2, rz3, rz4⟩ := rcells hz.z
          clear fA1 fA2 fA3 fA4
          go_wp2
          (try simp only [Exit.inBlock, Exit.then])
          refine bodyPost_ret (results_row_tmp10 rfl _ _ w.heap.size _ _ _ _ rfl FA1.out Tryd.underlying24 rfl (by kernel_rfl)) rfl ?_
          exact hyes _ (FA4.out _ HNw.out) FA2.out FA3.out
      · obtain ⟨s1, s2⟩ := S_facts Lx hL0
        by_cases hc : 64 ≤ c
        · obtain rfl : c = 64 := by omega
          have HN : RowKit.Hid (oneP l (k + 1) = (rec0, l1, a + 1, 4)) := by
            unfold RowKit.Hid
            rw [HO.out, HLong.out hL0 hc]
            rfl
          have hno := HErr.out l1 (a + 1) 4 (by decide) HN.out Ly
          have hz := HM.out.z
          clear HLong HCut HEnd HBad HGo HO HN hc hL0
          obtain ⟨fA1, fA2, fA3, fA4⟩ := hz.fin (x0 := .int .i64 0) (x1 := .int .i64 0) (x2 := .int .i64 0) (x3 := .string ⟨#[]⟩) (x4 := .slice Option.none 0 0)
          have FA1 := Lib.hid fA1
          have FA2 := Lib.hid fA2
          have FA3 := Lib.hid fA3
          have FA4 := Lib.hid fA4
          unfold setR5 at FA1 FA2 FA3 FA4
          obtain ⟨⟨r0, r1, r2, r3, r4⟩, rz0, rz1, rz2, rz3, rz4⟩ := rcells hz.z
          clear fA1 fA2 fA3 fA4
          go_wp2
          (try simp only [Exit.inBlock, Exit.then])
          refine bodyPost_ret (results_row_tmp10 rfl _ _ w.heap.size _ _ _ _ rfl FA1.out Tryd.underlying24 rfl (by kernel_rfl)) rfl ?_
          exact hno _ FA2.out FA3.out
        have t1 : ((c : Int) == 64) = false := by simp; omega
        have t1n : decide (c = 64) = false := decide_eq_false (by omega)
        have t1i : decide ((c : Int) = 64) = false := decide_eq_false (by omega)
        cases e2 with
        | false =>
          have HN : RowKit.Hid (oneP l (k + 1) = (rec0, l1, a + 1, 3)) := by
            unfold RowKit.Hid
            rw [HO.out, HCut.out (fun h => hc h.2) rfl]
            rfl
          have hno := HErr.out l1 (a + 1) 3 (by decide) HN.out Ly
          have hz := HM.out.z
          clear HLong HCut HEnd HBad HGo HO HN hc hL0
          obtain ⟨fA1, fA2, fA3, fA4⟩ := hz.fin (x0 := .int .i64 0) (x1 := .int .i64 0) (x2 := .int .i64 0) (x3 := .string ⟨#[]⟩) (x4 := .slice Option.none 0 0)
          have FA1 := Lib.hid fA1
          have FA2 := Lib.hid fA2
          have FA3 := Lib.hid fA3
          have FA4 := Lib.hid fA4
          unfold setR5 at FA1 FA2 FA3 FA4
          obtain ⟨⟨r0, r1, r2, r3, r4⟩, rz0, rz1, rz2, rz3, rz4⟩ := rcells hz.z
          clear fA1 fA2 fA3 fA4
          go_wp2
          (try simp only [Exit.inBlock, Exit.then])
          refine bodyPost_ret (results_row_tmp10 rfl _ _ w.heap.size _ _ _ _ rfl FA1.out Tryd.underlying24 rfl (by kernel_rfl)) rfl ?_
          exact hno _ FA2.out FA3.out
        | true =>
          have hcl : c < 64 := by omega
          obtain ⟨f, pe, hpf⟩ : ∃ f pe, parseR Lx = (f, pe) := ⟨_, _, rfl⟩
          have cP := Lib.hid (fParseN_any Lx hlx w4 (HEW.out w4 HM.out.z.up) f pe hpf)
          have hcase : (pe = 3 ∧ parseO Lx = none) ∨ (pe = 0 ∧ parseO Lx = some f) := by
            unfold parseR at hpf
            cases e : parseO Lx with
            | none => rw [e] at hpf; exact .inl ⟨(Prod.mk.inj hpf).2.symm, rfl⟩
            | some g => rw [e] at hpf; exact .inr ⟨(Prod.mk.inj hpf).2.symm, by rw [(Prod.mk.inj hpf).1]⟩
          have HBad2 := Lib.hid (HBad.out hL0 hcl rfl)
          have HGo2 := Lib.hid (HGo.out hL0 hcl rfl)
          have HLe : RowKit.Hid (a + 1 + Ly.length ≤ k + z ∧ Ly.length < l1.length) := by
            have h1 := HLn.out rfl
            have h2 := HAk.out
            unfold RowKit.Hid
            omega
          clear HLong HCut HEnd HBad HGo hL0 hpf hlx hc HLn
          go_wp2_with fail
          refine cP.out.mono ?_
          rintro e w5 ⟨v, rfl, hnv, hb5⟩
          obtain ⟨va, vc, rfl, -, -⟩ := hnv.here.length
          unfold FV
          have hbf := heap_alloc_new w5 (.cells #[.string (S f.tag), .string (S f.ind), .slice va f.subs.length vc, .int .i64 f.auth] 43)
          have hA5 := (Below.refl w5.heap.size w5).alloc (Nat.le_refl _) (.cells #[.string (S f.tag), .string (S f.ind), .slice va f.subs.length vc, .int .i64 f.auth] 43)
          obtain ⟨V5, hV5⟩ : ∃ W, w5.alloc (.cells #[.string (S f.tag), .string (S f.ind), .slice va f.subs.length vc, .int .i64 f.auth] 43) = W := ⟨_, rfl⟩
          rw [hV5] at hbf hA5
          have HM5 := Lib.hid ((HM.out.after hb5).after hA5)
          have HNv := Lib.hid (hnv.after hA5)
          have hBs := HM.out.lt
          obtain ⟨us0, _, hown0, _⟩ := HM.out.row
          have hnx : NewX (bx + 1) (Value.slice ao c cp).ownBlock (QL (.slice va f.subs.length vc) f.subs) V5 := NewX.of HNv.out hBs (fun j hj => (hown0.lt j hj).2)
          have HNx2 := Lib.hid hnx
          obtain ⟨bf, hbf2⟩ : ∃ b, w5.heap.size = b := ⟨_, rfl⟩
          rw [hbf2] at hbf
          have HV5 := Lib.hid hV5
          have HBf2 := Lib.hid hbf2
          have HBf := Lib.hid hbf
          clear hbf hA5 hV5 hbf2 hnv hb5 hown0 hnx f0 f1 f2 f3 f4 cP HM s1 s2 hBs
          go_upto_region 13 with fail
          rw [HV5.out, HBf2.out]
          rcases hcase with ⟨rfl, hno2⟩ | ⟨rfl, hso⟩
          · have HN : RowKit.Hid (oneP l (k + 1) = (rec0, l1, a + 1, 3)) := by
              unfold RowKit.Hid
              rw [HO.out, HBad2.out hno2]
              rfl
            have hno := HErr.out l1 (a + 1) 3 (by decide) HN.out Ly
            have hz := HM5.out.z
            clear HBad2 HGo2 HO hno2 HNx2 HNv HBf HN
            obtain ⟨fA1, fA2, fA3, fA4⟩ := hz.fin (x0 := .int .i64 0) (x1 := .int .i64 0) (x2 := .int .i64 0) (x3 := .string ⟨#[]⟩) (x4 := .slice Option.none 0 0)
            have FA1 := Lib.hid fA1
            have FA2 := Lib.hid fA2
            have FA3 := Lib.hid fA3
            have FA4 := Lib.hid fA4
            unfold setR5 at FA1 FA2 FA3 FA4
            obtain ⟨⟨r0, r1, r2, r3, r4⟩, rz0, rz1, rz2, rz3, rz4⟩ := rcells hz.z
            clear fA1 fA2 fA3 fA4
            go_wp2
            (try simp only [Exit.inBlock, Exit.then])
            refine bodyPost_ret (results_row_tmp10 rfl _ _ w.heap.size _ _ _ _ rfl FA1.out Tryd.underlying24 rfl (by kernel_rfl)) rfl ?_
            exact hno _ FA2.out FA3.out
          · have HO2 : RowKit.Hid (oneP l (k + 1) = oneF q0 (fldsP Ly (F ++ [f]) (a + 1 + 1))) := by
              unfold RowKit.Hid
              rw [HO.out, HGo2.out f hso]
            clear HBad2 HGo2 HO hso HNv
            obtain ⟨⟨x0, x1, x2, x3⟩, -⟩ := field_cells HBf.out
            have hPL3 := HM5.out.after ((Below.refl V5.heap.size V5).alloc (Nat.le_refl _) (.cells (encF f (.slice va f.subs.length vc)).toArray 43))
            have hnx3 := HNx2.out.on (w' := V5.alloc (.cells (encF f (.slice va f.subs.length vc)).toArray 43)) (by simp) (fun i _ hi _ => Below.heap_alloc _ _ _ hi)
            obtain ⟨xs, hxs, hpush⟩ := hPL3.row.open
            have HPush := Lib.hid (fun v' w' => hpush f (.slice va f.subs.length vc) v' w' hnx3)
            rw [hFc] at hxs
            have HXs := Lib.hid hxs
            have HPL3 := Lib.hid hPL3
            obtain ⟨fi0, hfi, hfz0, hfz1, hfz2⟩ := info_fld
            have HFI := Lib.hid hfi
            have HFZ0 := Lib.hid hfz0
            have HFZ1 := Lib.hid hfz1
            have HFZ2 := Lib.hid hfz2
            have HOneC := Lib.hid (encF_oneB f (.slice va f.subs.length vc) rfl)
            obtain ⟨⟨f0, f1, f2, f3, f4⟩, z0, z1, z2, z3, z4⟩ := rcells HM5.out.f
            have hszw : bx + 1 ≤ V5.heap.size := HM5.out.lt
            clear hPL3 hnx3 hxs hpush hfi hfz0 hfz1 hfz2 HNx2 HBf
            go_wp2_with (at_builtin; go_loud (refine wpList_append_two _ rfl _ _ 22 rfl (bx + 1) 43 fi0 (.agg #[.string ⟨#[]⟩, .string ⟨#[]⟩, .slice none 0 0, .int .i64 0]) 4 64 Tryd.underlying22 HFI.out HFZ0.out HFZ1.out HFZ2.out rfl (by decide) _ _ _ rfl HXs.out ⟨V5.heap.size, 0, none⟩ 1 1 (encF f (.slice va f.subs.length vc)) rfl rfl (cells_four _ _ _ _ _ _) HOneC.out (by decide) (by unfold maxLen; omega) (by omega) (by simp; omega) ?_))
            intro fv2 w6 hown3 hg3 hnn3 hob3
            have hFN := HPush.out fv2 w6 hg3 (by rw [show (V5.alloc (.cells (encF f (.slice va f.subs.length vc)).toArray 43)).heap.size = V5.heap.size + 1 by simp]; exact hob3) (by rw [hFc]; exact hown3)
            obtain ⟨hK4, hf4⟩ := HPL3.out.push (f := f) hg3 hFN
            obtain ⟨⟨y0, y1, y2, y3, y4⟩, s0, s1, s2, s3, s4⟩ := rcells hf4
            obtain ⟨ao2, cp2, rfl⟩ := own_form hown3
            have HK4 := Lib.hid hK4
            have HM4 := Lib.hid (rdN_of hK4.z.rd)
            clear hFN hown3 hg3 hnn3 hob3 hK4 hf4 HPush HXs HOneC HPL3 x0 x1 x2 x3 f0 f1 f2 f3 f4 z0 z1 z2 z3 z4
            go_wp2
            go_roundw
            case rel => exact ⟨Ly, c + 1, a + 1, F ++ [f], _, _, HLy.out, by rw [List.length_append, hFc]; rfl, by omega, HLe.out.1, HO2, HK4⟩
            case measure =>
              rw [HM4.out, HM0.out]
              exact HLe.out.2
end

section
open Go.RowKit Go.PlainAid
theorem Up.size_at {b : Nat} {w w' : World} (h : Up b w w') (i : Nat) (hi : i < w.heap.size) (hne : i ≠ b) {o : Obj} (k : w.heap[i]? = some o) : w'.heap[i]? = some o := (h.block i hi hne).trans k
set_option maxHeartbeats 16000000 in
set_option maxRecDepth 100000 in
theorem pParse11_any (l : List UInt8) (hl : l.length ≤ 1000000) (q : Rec) (m : Int) (er : Int) (hp : parX l = (q, m, er)) (w : World) (hE : Env w) :
    Calls Tryd.prog 9 #[.string (S l)] w fun e w' => ∃ u, e = .returned (.tuple #[RV q u, .int .i64 m, .int .i64 er]) ∧ New w.heap.size (FL u q.fields) w' ∧ Below w.heap.size w w' := by
  obtain ⟨Q, hQ⟩ : ∃ Q, (fun (e : Ending) (w' : World) => ∃ u, e = .returned (.tuple #[RV q u, .int .i64 m, .int .i64 er]) ∧ New w.heap.size (FL u q.fields) w' ∧ Below w.heap.size w w') = Q := ⟨_, rfl⟩
  rw [hQ]
  obtain ⟨q1, t, a, e1, ho⟩ : ∃ q t a e, oneP l (0 + 1) = (q, t, a, e) := ⟨_, _, _, _, rfl⟩
  have ho1 : oneP l 1 = (q1, t, a, e1) := ho
  have HErr : RowKit.Hid (e1 ≠ 0 → ∀ W, Below w.heap.size w W → Q (.returned (.tuple #[.agg #[.int .i64 0, .int .i64 0, .int .i64 0, .string ⟨#[]⟩, .slice none 0 0], .int .i64 (a : Int), .int .i64 e1])) W) := by
    intro h0 W hW
    unfold parX at hp
    rw [ho1, if_pos h0] at hp
    obtain ⟨rfl, h2⟩ := Prod.mk.inj hp
    obtain ⟨rfl, rfl⟩ := Prod.mk.inj h2
    rw [← hQ]
    exact ⟨.slice none 0 0, rfl, fl_none _ _, hW⟩
  have HMore : RowKit.Hid (e1 = 0 → t ≠ [] → ∀ W, Below w.heap.size w W → Q (.returned (.tuple #[.agg #[.int .i64 0, .int .i64 0, .int .i64 0, .string ⟨#[]⟩, .slice none 0 0], .int .i64 (a : Int), .int .i64 3])) W) := by
    intro h0 ht W hW
    unfold parX at hp
    rw [ho1, if_neg (fun h => h h0), if_pos ht] at hp
    obtain ⟨rfl, h2⟩ := Prod.mk.inj hp
    obtain ⟨rfl, rfl⟩ := Prod.mk.inj h2
    rw [← hQ]
    exact ⟨.slice none 0 0, rfl, fl_none _ _, hW⟩
  have HYes : RowKit.Hid (e1 = 0 → t = [] → ∀ u W, New w.heap.size (FL u q1.fields) W → Below w.heap.size w W → Q (.returned (.tuple #[.agg #[.int .i64 q1.id, .int .i64 q1.ver, .int .i64 q1.kind, .string (S q1.lang), u], .int .i64 0, .int .i64 0])) W) := by
    intro h0 ht u W hN hW
    unfold parX at hp
    rw [ho1, if_neg (fun h => h h0), if_neg (fun h => h ht)] at hp
    obtain ⟨rfl, h2⟩ := Prod.mk.inj hp
    obtain ⟨rfl, rfl⟩ := Prod.mk.inj h2
    rw [← hQ]
    exact ⟨u, rfl, hN, hW⟩
  clear hp hQ ho1
  obtain ⟨W0, hW0⟩ : ∃ W, w.alloc (.cells #[.int .i64 0, .int .i64 0, .int .i64 0, .string ⟨#[]⟩, .slice none 0 0] 24) = W := ⟨_, rfl⟩
  have hA0 : Below w.heap.size w W0 := by rw [← hW0]; exact (Below.refl _ _).alloc (Nat.le_refl _) _
  have hs0 : W0.heap.size = w.heap.size + 1 := by rw [← hW0]; simp
  have hz0 : W0.heap[w.heap.size]? = some (.cells #[.int .i64 0, .int .i64 0, .int .i64 0, .string ⟨#[]⟩, .slice none 0 0] 24 (0, 0)) := by rw [← hW0]; exact heap_alloc_new w _
  obtain ⟨W1, hW1⟩ : ∃ W, W0.alloc (.cells #[.string (S l), .int .i64 0] 59) = W := ⟨_, rfl⟩
  have hA1 : Below W0.heap.size W0 W1 := by rw [← hW1]; exact (Below.refl _ _).alloc (Nat.le_refl _) _
  have hs1 : W1.heap.size = w.heap.size + 1 + 1 := by rw [← hW1]; simp [hs0]
  have hrd : Rd (w.heap.size + 1) l 0 W1 := by
    rw [← hs0, ← hW1]
    exact heap_alloc_new W0 _
  have hB1 := hA0.trans (hA1.mono hA0.size)
  have hz1 := (hA1.block w.heap.size (by omega)).trans hz0
  have hW : (w.alloc (.cells #[.int .i64 0, .int .i64 0, .int .i64 0, .string ⟨#[]⟩, .slice none 0 0] 24)).alloc (.cells #[.string (S l), .int .i64 0] 59) = W1 := by rw [hW0, hW1]
  have HW := Lib.hid hW
  have cR := Lib.hid (record_any w hE (w.heap.size + 1) (Nat.le_succ _) l hl 0 (by decide) W1 hB1 hrd q1 t a e1 ho)
  have HUB := Lib.hid (fun W (h : Up (w.heap.size + 1) W1 W) => h.below hB1 (by omega) (Nat.le_succ _))
  have HUZ := Lib.hid (fun W (h : Up (w.heap.size + 1) W1 W) => (h.block w.heap.size (by omega) (by omega)).trans hz1)
  have HNx := Lib.hid (fun (l1 : List UInt8) (h1 : l1.length ≤ 1000000) (a : Nat) (ha : a ≤ 1000000000) W (hu : Up (w.heap.size + 1) W1 W) (hr : Rd (w.heap.size + 1) l1 a W) => next_any w hE (w.heap.size + 1) l1 h1 a ha W (hu.below hB1 (by omega) (Nat.le_succ _)) hr)
  have hgt : w.heap.size + 1 ≤ W1.heap.size := by omega
  have HGt := Lib.hid hgt
  have HLl := Lib.hid hl
  clear hW hW0 hW1 hA0 hA1 hs0 hs1 hz0 hz1 hrd hB1 ho hE hgt hl
  generalize S l = s at *
  go_enter Tryd.func9, Tryd.ntmps9
  go_upto_region 2 with fail
  rw [HW.out]
  clear HW
  go_wp2_with fail
  refine cR.out.mono ?_
  rintro e w2 ⟨u, rfl, hn, hu2, l', k', hr2, hok, hbad⟩
  obtain ⟨ua, uc, rfl, -, -⟩ := hn.here.length
  obtain ⟨ul, hul⟩ : ∃ n, q1.fields.length = n := ⟨_, rfl⟩
  rw [hul] at hn ⊢
  unfold RV
  have hbx := heap_alloc_new w2 (.cells #[.int .i64 q1.id, .int .i64 q1.ver, .int .i64 q1.kind, .string (S q1.lang), .slice ua ul uc] 24)
  have hA := (Below.refl w2.heap.size w2).alloc (Nat.le_refl _) (.cells #[.int .i64 q1.id, .int .i64 q1.ver, .int .i64 q1.kind, .string (S q1.lang), .slice ua ul uc] 24)
  obtain ⟨V, hV⟩ : ∃ W, w2.alloc (.cells #[.int .i64 q1.id, .int .i64 q1.ver, .int .i64 q1.kind, .string (S q1.lang), .slice ua ul uc] 24) = W := ⟨_, rfl⟩
  rw [hV] at hbx hA
  have hU3 := hu2.trans (Up.of hA)
  have hR3 := hr2.after hA
  have hN3 := hn.after hA
  have hge : w.heap.size + 1 < w2.heap.size := hr2.lt
  obtain ⟨bx, hbb⟩ : ∃ b, w2.heap.size = b := ⟨_, rfl⟩
  rw [hbb] at hbx hge
  have HBx := Lib.hid hbx
  have HU3 := Lib.hid hU3
  have HR3 := Lib.hid hR3
  have HN3 := Lib.hid (hN3.mono HGt.out)
  have HV := Lib.hid hV
  have HBb := Lib.hid hbb
  have HOk := Lib.hid hok
  have HBad := Lib.hid hbad
  clear hn hu2 hr2 hbx hA hV hU3 hR3 hN3 hbb cR hok hbad hul
  obtain ⟨⟨p0, p1⟩, -⟩ := HR3.out.cells
  go_upto_region 3 with fail
  rw [HV.out, HBb.out]
  clear HV HBb
  by_cases h0 : e1 = 0
  · obtain ⟨hl', hk', hkl⟩ := HOk.out h0
    subst hl'
    rw [Nat.zero_add] at hkl
    have hk9 : k' ≤ 1000000000 := by have := HLl.out; omega
    have hl9 : l'.length ≤ 1000000 := by have := HLl.out; omega
    by_cases ht : l' = []
    · have hyes := HYes.out h0 ht (.slice ua ul uc)
      subst h0 ht
      have e0 : S [] = (⟨#[]⟩ : ByteArray) := rfl
      rw [e0] at p0
      have hz := HUZ.out V HU3.out
      have hfin := Lib.hid (rec_set5 (x0 := .int .i64 q1.id) (x1 := .int .i64 q1.ver) (x2 := .int .i64 q1.kind) (x3 := .string (S q1.lang)) (x4 := .slice ua ul uc) hz)
      have hbb := Lib.hid (rec_below (x0 := .int .i64 q1.id) (x1 := .int .i64 q1.ver) (x2 := .int .i64 q1.kind) (x3 := .string (S q1.lang)) (x4 := .slice ua ul uc) (HUB.out V HU3.out))
      have hNw : RowKit.Hid (New w.heap.size (FL (.slice ua ul uc) q1.fields) (setR5 V w.heap.size (.int .i64 q1.id) (.int .i64 q1.ver) (.int .i64 q1.kind) (.string (S q1.lang)) (.slice ua ul uc))) :=
        (HN3.out.on (by rw [rec_size]; exact Nat.le_refl _) (fun i hi _ => rec_other i (by omega))).mono (by omega)
      unfold setR5 at hfin hbb hNw
      obtain ⟨⟨r0, r1, r2, r3, r4⟩, -⟩ := rcells HBx.out
      obtain ⟨⟨y0, y1, y2, y3, y4⟩, g0, g1, g2, g3, g4⟩ := rcells hz
      clear hz HErr HMore HYes HNx HUZ HUB HU3 HR3 HN3 HOk HBad hk9 hl9 hkl hk'
      go_wp2
      (try simp only [Exit.inBlock, Exit.then])
      refine bodyPost_ret (results_cell_two rfl _ _ w.heap.size _ _ _ _ rfl hfin.out Tryd.underlying24 rfl (by kernel_rfl)) rfl ?_
      exact hyes _ hNw.out hbb.out
    · obtain ⟨s1, s2⟩ := S_facts l' ht
      have hmore := HMore.out h0 ht
      have cN := Lib.hid (HNx.out l' hl9 k' hk9 V HU3.out HR3.out)
      subst h0
      clear HErr HYes HMore HNx HOk HBad HN3
      go_wp2_with fail
      refine cN.out.mono ?_
      rintro e w5 ⟨rfl, hr5, hu5⟩
      have HU5 := Lib.hid (HU3.out.trans hu5)
      have hz := HUZ.out w5 HU5.out
      have hfin := Lib.hid (rec_set5 (x0 := .int .i64 0) (x1 := .int .i64 0) (x2 := .int .i64 0) (x3 := .string ⟨#[]⟩) (x4 := .slice none 0 0) hz)
      have hbb := Lib.hid (rec_below (x0 := .int .i64 0) (x1 := .int .i64 0) (x2 := .int .i64 0) (x3 := .string ⟨#[]⟩) (x4 := .slice none 0 0) (HUB.out w5 HU5.out))
      unfold setR5 at hfin hbb
      rw [hk'] at hr5
      clear p0 p1
      obtain ⟨⟨p0, p1⟩, -⟩ := hr5.cells
      obtain ⟨⟨y0, y1, y2, y3, y4⟩, g0, g1, g2, g3, g4⟩ := rcells hz
      have hfinD : RowKit.Hid ((((((w5.setCell ⟨w.heap.size, 0, none⟩ (.int .i64 0)).setCell ⟨w.heap.size, 1, none⟩ (.int .i64 0)).setCell ⟨w.heap.size, 2, none⟩ (.int .i64 0)).setCell ⟨w.heap.size, 3, none⟩ (.string ⟨#[]⟩)).setCell ⟨w.heap.size, 4, none⟩ (.slice none 0 0)).drew.heap[w.heap.size]? = some (.cells #[.int .i64 0, .int .i64 0, .int .i64 0, .string ⟨#[]⟩, .slice none 0 0] 24 (0, 0))) := hfin.out
      have hbbD := Lib.hid hbb.out.drew
      have hne : ¬ w.heap.size = w.heap.size + 1 := by omega
      have hne2 : ¬ w.heap.size + 1 = w.heap.size := by omega
      clear hz hr5 hu5 cN hk9 hl9 hkl hk' s1 s2
      go_upto_region 7 with fail
      go_region
      go_wp2
      (try simp only [Exit.inBlock, Exit.then])
      refine bodyPost_ret (results_cell_two rfl _ _ w.heap.size _ _ _ _ rfl hfinD.out Tryd.underlying24 rfl (by kernel_rfl)) rfl ?_
      exact hmore _ hbbD.out
  · have hkm := HBad.out h0
    subst hkm
    have herr := HErr.out h0
    have t0 : (e1 == 0) = false := by simpa using h0
    have t0n : decide (e1 = 0) = false := decide_eq_false h0
    have t1 : (e1 != 0) = true := by simpa using h0
    have hz := HUZ.out V HU3.out
    have hfin := Lib.hid (rec_set5 (x0 := .int .i64 0) (x1 := .int .i64 0) (x2 := .int .i64 0) (x3 := .string ⟨#[]⟩) (x4 := .slice none 0 0) hz)
    have hbb := Lib.hid (rec_below (x0 := .int .i64 0) (x1 := .int .i64 0) (x2 := .int .i64 0) (x3 := .string ⟨#[]⟩) (x4 := .slice none 0 0) (HUB.out V HU3.out))
    unfold setR5 at hfin hbb
    obtain ⟨⟨y0, y1, y2, y3, y4⟩, g0, g1, g2, g3, g4⟩ := rcells hz
    have hfinD : RowKit.Hid ((((((V.setCell ⟨w.heap.size, 0, none⟩ (.int .i64 0)).setCell ⟨w.heap.size, 1, none⟩ (.int .i64 0)).setCell ⟨w.heap.size, 2, none⟩ (.int .i64 0)).setCell ⟨w.heap.size, 3, none⟩ (.string ⟨#[]⟩)).setCell ⟨w.heap.size, 4, none⟩ (.slice none 0 0)).drew.heap[w.heap.size]? = some (.cells #[.int .i64 0, .int .i64 0, .int .i64 0, .string ⟨#[]⟩, .slice none 0 0] 24 (0, 0))) := hfin.out
    have hbbD := Lib.hid hbb.out.drew
    have hne : ¬ w.heap.size = w.heap.size + 1 := by omega
    have hne2 : ¬ w.heap.size + 1 = w.heap.size := by omega
    clear hz h0 HErr HYes HMore HNx HOk HBad HN3
    go_upto_region 7 with fail
    go_region
    go_wp2
    (try simp only [Exit.inBlock, Exit.then])
    refine bodyPost_ret (results_cell_two rfl _ _ w.heap.size _ _ _ _ rfl hfinD.out Tryd.underlying24 rfl (by kernel_rfl)) rfl ?_
    exact herr _ hbbD.out
end

end Go.Proofs.YtnfallkeicehiaaDoor
