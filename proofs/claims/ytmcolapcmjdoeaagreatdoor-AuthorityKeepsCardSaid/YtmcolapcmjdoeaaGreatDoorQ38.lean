/- Merged: QW13, QX13, QY13. -/
import Derived.Test.YtmcolapcmjdoeaaGreatDoorQ31
import Derived.Test.YtmcolapcmjdoeaaGreatDoorShelfC
import Derived.Test.YtmcolapcmjdoeaaGreatDoorQ37
import Derived.Test.YtmcolapcmjdoeaaGreatDoorQ22
import Derived.Test.YtmcolapcmjdoeaaGreatDoorQ33
namespace Go.Proofs.YtmcolapcmjdoeaaGreatDoor

section
open Go.RowKit Go.PlainAid Go.Maps Go.Sort Go.Shelf
theorem sorts13 (m : Nat) : AnyZI.SortsIn Tryz.prog Tryz.sortedA_ren Fence.wide m :=
  ⟨fun blk off cap ss W hH hblk hsz => callsIn_wide.2 (AnyM.slices_Sort_int Tryz.sortA blk off cap ss W hH hblk hsz),
   fun p cap W => callsIn_wide.2 (AnyM.slices_Sort_int_none Tryz.sortA p cap W)⟩
theorem keys_any (mb : Option Nat) (W : World) : Calls Tryz.prog 55 #[.map mb] W fun e w' => e = .returned (.func (.func 82) #[] #[.pointer (some ⟨W.heap.size, 0, none⟩)]) ∧ w' = W.alloc (.cells #[.map mb] 81) :=
  (callsIn_wide (n := 5)).1 (AnyZI.keys_in Tryz.keysA Fence.wide 5 trivial rfl mb W)
theorem mem_keys13 {w : World} {b n : Nat} {D : DataW Value} (h : w.ownsMap Tryz.prog 3 exV b n D) (x : Int) : x ∈ intKeys D ↔ Maps.has D (mkI x) = true := by
  obtain ⟨es, rfl, hko⟩ := h.keysOf
  rw [has_eq, List.any_eq_true]
  show x ∈ es.map (fun p => Go.intOf p.1) ↔ _
  rw [List.mem_map]
  constructor
  · rintro ⟨p, hp', rfl⟩
    obtain ⟨v, hv⟩ := hko p hp'
    obtain ⟨a, _, ha, _⟩ := Maps.keyOf_i64 (by kernel_rfl) hv
    exact ⟨p, hp', by rw [ha]; simp [Lit.sameKey, Go.intOf, mkI]⟩
  · rintro ⟨p, hp', hs⟩
    obtain ⟨v, hv⟩ := hko p hp'
    obtain ⟨a, _, ha, _⟩ := Maps.keyOf_i64 (by kernel_rfl) hv
    rw [ha] at hs
    exact ⟨p, hp', by rw [ha]; simpa [Lit.sameKey, Go.intOf, mkI] using hs⟩
theorem nodup_keys13 {w : World} {b n : Nat} {D : DataW Value} (h : w.ownsMap Tryz.prog 3 exV b n D) : (intKeys D).Nodup := by
  obtain ⟨es, hD, hpw, _⟩ := h.entries keyed_int
  obtain ⟨es', hD', hko⟩ := h.keysOf
  obtain rfl : es = es' := by rw [hD] at hD'; simpa using hD'
  subst hD
  show (es.map fun p => Go.intOf p.1).Nodup
  refine List.pairwise_map.2 (hpw.imp_of_mem fun {p q} hp' hq' hne e => hne ?_)
  obtain ⟨_, hv⟩ := hko p hp'
  obtain ⟨_, hw⟩ := hko q hq'
  obtain ⟨a, _, ha, _⟩ := Maps.keyOf_i64 (by kernel_rfl) hv
  obtain ⟨b, _, hb, _⟩ := Maps.keyOf_i64 (by kernel_rfl) hw
  rw [ha, hb] at e ⊢
  exact congrArg _ e
theorem sort_asc (ss : List Int) (h : ss.Nodup) : AscI (ss.mergeSort fun x y => decide (x ≤ y)) := by
  have tr : ∀ a b c : Int, decide (a ≤ b) = true → decide (b ≤ c) = true → decide (a ≤ c) = true := fun a b c h1 h2 => by simp only [decide_eq_true_eq] at *; exact Int.le_trans h1 h2
  have tot : ∀ a b : Int, (decide (a ≤ b) || decide (b ≤ a)) = true := fun a b => by simp only [Bool.or_eq_true, decide_eq_true_eq]; exact Int.le_total a b
  have h1 := List.pairwise_mergeSort tr tot ss
  have h2 : (ss.mergeSort fun x y => decide (x ≤ y)).Nodup := (List.mergeSort_perm ss _).symm.nodup h
  unfold AscI
  refine (List.Pairwise.and h1 h2).imp ?_
  rintro a b ⟨h3, h4⟩
  have := of_decide_eq_true h3
  omega

set_option maxHeartbeats 1000000 in
theorem sorted_any (b m : Nat) (f : Int → Bool) (w : World) (h : RM b f m w) (hm : m ≤ 100000) :
    Calls Tryz.prog 54 #[.func (.func 82) #[] #[.pointer (some ⟨w.heap.size, 0, none⟩)]] (w.alloc (.cells #[.map (some b)] 81)) fun e w' => ∃ v l, e = .returned v ∧ IL v l w' ∧ AscI l ∧ (∀ x, x ∈ l ↔ f x = true) ∧ Below w.heap.size w w' := by
  obtain ⟨D0, hown, hsz, hf⟩ := h
  have hbl := hown.lt
  have hseq : SeqGives Fence.wide 2 Tryz.prog 82 #[.pointer (some ⟨w.heap.size, 0, none⟩)] encZ (fun ss => ss.Perm (intKeys D0)) (Maps.size D0) (w.alloc (.cells #[.map (some b)] 81)) :=
    AnyZI.keys_gives (ρ := Tryz.keysA_ren) { Tryz.keysA with } Fence.wide _ trivial rfl (by omega) w.heap.size b m D0 _ (by simp) (by simp) (by
      obtain ⟨es, clock, hb, Ft, hs, hD⟩ := hown
      exact ⟨es, clock, (Below.heap_alloc _ _ b hbl).trans hb, Ft, hs, hD⟩)
  have cS := AnyZI.sorted_in Tryz.sortedA Fence.wide 5 trivial trivial trivial trivial rfl (by omega) (sorts13 _) (enters_of Tryz.func81 (by kernel_rfl) rfl) 82 #[.pointer (some ⟨w.heap.size, 0, none⟩)] trivial (enters_of Tryz.func82 (by kernel_rfl) rfl) _ _ (by rw [hsz]; unfold maxLen; omega) (by rw [hsz]; omega) _ hseq
  change CallsIn _ _ Tryz.prog 54 _ _ _ at cS
  refine (callsIn_wide.1 cS).mono ?_
  rintro e w' ⟨v, ss, rfl, hS, hrow, hnil, hb⟩
  have hnd : ss.Nodup := hS.symm.nodup (nodup_keys13 hown)
  refine ⟨v, _, rfl, ?_, sort_asc ss hnd, fun x => ?_, ((Below.refl _ w).alloc (Nat.le_refl _) _).trans (hb.mono (by simp))⟩
  · refine IR.il (B := (w.alloc (.cells #[.map (some b)] 81)).heap.size) ?_
    unfold IR
    rw [List.length_mergeSort]
    exact hrow
  · rw [(List.mergeSort_perm ss _).mem_iff, hS.mem_iff, mem_keys13 hown, (hf x).1]
    unfold rmF
    cases f x <;> simp
end

section
open Go.RowKit Go.PlainAid Go.Maps
set_option maxHeartbeats 4000000 in
theorem above_any (v : Value) (L : List Au) (id : Int) (w : World) (hv : AL v L w) (hb : bnd L) (hr : rightA L = 0) (hi : 1 ≤ id ∧ id ≤ 9999) :
    Calls Tryz.prog 22 #[v, .int .i64 id] w fun e w' => ∃ v', e = .returned v' ∧ IL v' (aboveA L id) w' ∧ Below w.heap.size w w' := by
  have hs := right_asc L hr
  have hab := (right_out L hr).2.2.2.1
  have hid := fun a ha => ((ones_out L none (right_out L hr).2.1).2.1 a ha).2
  have hz := hb.1
  have hUl : (L.map (·.id)).length ≤ 100000 := by rw [List.length_map]; omega
  have cU := Lib.hid (upward_any v L w hv (by omega) hs hid)
  have hN : (upF L id).length + ((L.map (·.id)).map fun x => (upF L x).length).sum ≤ 100000 := by
    have h1 := up_len L hab id
    have h2 := sum_le13 (fun x => (upF L x).length) 4 (L.map (·.id)) (fun x _ => up_len L hab x)
    rw [List.length_map] at h2
    omega
  have cR := Lib.hid (fun (b : Nat) (W : World) (hk : LK b (upF L) W) => reach_any b (upF L) id W hk ⟨by omega, by omega⟩ (L.map (·.id)) (asc_nodup L hs) (up_in L hab id) (fun x _ y hy => up_in L hab x y hy)
    (fun x hx => by obtain ⟨c, hc, rfl⟩ := List.mem_map.1 hx; have := hid c hc; exact ⟨by omega, by omega⟩) hN hUl)
  have HEq := Lib.hid (fun (l : List Int) (f : Int → Bool) (h1 : AscI l) (h2 : ∀ x, x ∈ l ↔ f x = true) (h3 : Lst (upF L) id f) => asc_same l (aboveA L id) h1 (above_asc L id) (fun x => (h2 x).trans (up_above L hs id f h3 x)))
  obtain ⟨va, vc, rfl, hc1, hc2⟩ := hv.length
  generalize L.length = n at *
  clear hv hb hr hs hab hid hN hUl
  go_enter Tryz.func22, Tryz.ntmps22
  go_wp2_with fail
  refine cU.out.mono ?_
  rintro e w1 ⟨b1, rfl, hk1, -, hb1⟩
  have cR1 := Lib.hid (cR.out b1 w1 hk1)
  have HB1 := Lib.hid hb1
  clear hk1 hb1 cU cR
  go_wp2_with fail
  refine cR1.out.mono ?_
  rintro e w2 ⟨b2, f, m, rfl, hrm, hm, hl, -, hb2⟩
  have cK := Lib.hid (keys_any (some b2) w2)
  have cS := Lib.hid (sorted_any b2 m f w2 hrm hm)
  have HL := Lib.hid hl
  have HB2 := Lib.hid (HB1.out.trans (hb2.mono HB1.out.size))
  clear hrm hl hb2 cR1
  go_wp2_with fail
  refine cK.out.mono ?_
  rintro e w3 ⟨rfl, hw3⟩
  rw [hw3]
  clear hw3 cK
  go_wp2_with fail
  refine cS.out.mono ?_
  rintro e w4 ⟨v4, l, rfl, hil, hasc, hmem, hb4⟩
  have hfin : ∃ v', Ending.returned v4 = Ending.returned v' ∧ IL v' (aboveA L id) w4 ∧ Below w.heap.size w w4 := ⟨v4, rfl, by rw [← HEq.out l f hasc hmem HL.out]; exact hil, HB2.out.trans (hb4.mono HB2.out.size)⟩
  have HFin := Lib.hid hfin
  obtain ⟨a4, c4, rfl, -⟩ := hil
  generalize l.length = n4 at *
  clear hfin hasc hmem hb4 cS HEq
  go_wp2
  go_ret
  exact HFin.out
end

section
open Go.RowKit Go.PlainAid Go.Maps
theorem down_app (M N : List Au) (x : Int) : downF (M ++ N) x = downF M x ++ downF N x := by unfold downF; rw [List.flatMap_append]
theorem down_one (a : Au) (x : Int) : downF [a] x = (a.above.filter fun n => decide (n = x)).map fun _ => a.id := by
  unfold downF
  rw [List.flatMap_cons, List.flatMap_nil, List.append_nil]
theorem down_snoc (M : List Au) (a : Au) (l : List Int) (y x : Int) : downF (M ++ [{ a with above := l ++ [y] }]) x = downF (M ++ [{ a with above := l }]) x ++ (if x = y then [a.id] else []) := by
  rw [down_app, down_app, List.append_assoc]
  congr 1
  rw [down_one, down_one]
  show ((l ++ [y]).filter _).map _ = (l.filter _).map _ ++ _
  rw [List.filter_append, List.map_append]
  congr 1
  by_cases h : x = y
  · rw [if_pos h, h]
    simp
  · rw [if_neg h]
    have : ¬ y = x := fun e => h e.symm
    simp [this]
theorem down_none (M : List Au) (a : Au) (x : Int) : downF (M ++ [{ a with above := [] }]) x = downF M x := by
  rw [down_app, down_one]
  simp
theorem down_len (c : Nat) : ∀ (M : List Au) (x : Int), (∀ a ∈ M, a.above.length ≤ c) → (downF M x).length ≤ M.length * c
  | [], _, _ => Nat.zero_le _
  | a :: r, x, h => by
    have h1 := down_len c r x (fun b hb => h b (List.mem_cons_of_mem _ hb))
    have h2 : (downF [a] x).length ≤ c := by
      rw [down_one, List.length_map]
      exact Nat.le_trans (List.length_filter_le _ _) (h a (List.mem_cons_self ..))
    have : downF (a :: r) x = downF [a] x ++ downF r x := down_app [a] r x
    rw [this, List.length_append, List.length_cons, Nat.succ_mul]
    omega

/-- One number more behind a row of one's own. -/
theorem append_oneI13 (B : Nat) (v : Value) (M : List Int) (y : Int) (w : World) (h : IR B v M w) (hz : M.length ≤ 100000) (hB : B ≤ w.heap.size) (ty : TypeId) :
    ∃ v' w', (Builtin.append_ #[29, 29] ty #[v, .slice (some ⟨w.heap.size, 0, none⟩) 1 1]).run Tryz.prog (w.alloc (.cells #[.int .i64 y] 3)) = .ok v' w' ∧ IR B v' (M ++ [y]) w' ∧ (w.alloc (.cells #[.int .i64 y] 3)).grownBy w' v.ownBlock ∧ (v'.ownBlock = v.ownBlock ∨ ∃ k, v'.ownBlock = some k ∧ (w.alloc (.cells #[.int .i64 y] 3)).heap.size ≤ k) := by
  obtain ⟨i0, hi, hz0, hz1, hz2⟩ := info_int13
  have hrow := World.ownsRow.alloc h (.cells #[.int .i64 y] 3)
  have h1 : ∀ u ∈ [intV y], u.oneCell' = true := by intro u hu; simp at hu; subst hu; rfl
  have hc : ∀ j u, [intV y][j]? = some u → (w.alloc (.cells #[.int .i64 y] 3)).cell? ((⟨w.heap.size, 0, none⟩ : Addr).add j) = some u := by
    intro j u hj
    cases j with
    | zero => simp at hj; subst hj; simp [Addr.add]; rfl
    | succ j => simp at hj
  obtain ⟨v', w', hr, h2, h3, h4⟩ := run_append_own (P := Tryz.prog) _ B 29 ty 3 i0 (.int .i64 0) 1 8 Tryz.underlying29 hi hz0 hz1 hz2 rfl (by decide) v M.length _ hrow ⟨w.heap.size, 0, none⟩ 1 1 [intV y] rfl hc h1 (by unfold maxLen; omega) (by omega) (by simp; omega)
  have h5 := append_block (P := Tryz.prog) _ B 29 ty 3 i0 (.int .i64 0) 1 8 Tryz.underlying29 hi hz0 hz1 hz2 v M.length _ hrow ⟨w.heap.size, 0, none⟩ 1 1 [intV y] rfl hc h1 (by decide) (by unfold maxLen; omega) (by omega) v' w' hr
  refine ⟨v', w', hr, by unfold IR; rw [List.length_append, List.map_append]; exact h2, h3, ?_⟩
  rcases h5 with h5 | h5
  · exact .inl h5
  · exact .inr ⟨_, h5, Nat.le_refl _⟩

/-- Block b holds a row of one's own for each number: the rows of G. -/
def DN (b : Nat) (G : Int → List Int) (c : Nat) (w : World) : Prop :=
  ∃ f m, m ≤ c ∧ VM 3 mkI b f m w ∧ (∀ x, IR (b + 1) ((f x).getD nilV) (G x) w) ∧ ∀ x y, x ≠ y → Apt ((f x).getD nilV) ((f y).getD nilV)
theorem DN.after {b : Nat} {G : Int → List Int} {c : Nat} {w w' : World} (h : DN b G c w) (hb : Below w.heap.size w w') : DN b G c w' := by
  obtain ⟨f, m, h0, h1, h2, h3⟩ := h
  exact ⟨f, m, h0, VM.after h1 hb, fun x => (h2 x).after hb, h3⟩
theorem DN.congr {b : Nat} {G H : Int → List Int} {c d : Nat} {w : World} (h : DN b G c w) (he : ∀ x, G x = H x) (hd : c ≤ d) : DN b H d w := by
  obtain ⟨f, m, h0, h1, h2, h3⟩ := h
  exact ⟨f, m, Nat.le_trans h0 hd, h1, fun x => by rw [← he]; exact h2 x, h3⟩
theorem DN.lk {b : Nat} {G : Int → List Int} {c : Nat} {w : World} (h : DN b G c w) : LK b G w := by
  obtain ⟨f, m, h0, h1, h2, h3⟩ := h
  exact ⟨f, m, h1, fun x => (h2 x).il⟩
/-- One number more for one number: what lies behind append, and behind the store. -/
theorem DN.put {b : Nat} {G : Int → List Int} {c : Nat} {w0 w : World} (h : DN b G c w) (hb : b + 1 ≤ w.heap.size) (hB : Below b w0 w) (x y : Int) (hz : (G x).length ≤ 100000) (ty : TypeId) :
    ∃ f m u, m ≤ c ∧ VM 3 mkI b f m w ∧ (f x).getD nilV = u ∧ ∃ v' w2, (Builtin.append_ #[29, 29] ty #[u, .slice (some ⟨w.heap.size, 0, none⟩) 1 1]).run Tryz.prog (w.alloc (.cells #[.int .i64 y] 3)) = .ok v' w2 ∧ VM 3 mkI b f m w2 ∧ (∃ a n c, v' = .slice a n c) ∧ (∃ a n c, u = .slice a n c) ∧
      (∀ bx cs fr, w.heap[bx]? = some (.cells cs 31 fr) → w2.heap[bx]? = some (.cells cs 31 fr) ∧ bx ≠ b) ∧
      ∀ w3, VM 3 mkI b (fun z => if z = x then some v' else f z) (if (f x).isSome = true then m else m + 1) w3 → w2.grownBy w3 (some b) → DN b (fun z => G z ++ if z = x then [y] else []) (c + 1) w3 ∧ Below b w0 w3 ∧ b + 1 ≤ w3.heap.size := by
  obtain ⟨f, m, hm, hvm, hir, hap⟩ := h
  obtain ⟨v', w2, hrun, hv', hg, ho⟩ := append_oneI13 (b + 1) _ (G x) y w (hir x) hz hb ty
  have hbl := VM.lt hvm
  have ha : Below w.heap.size w (w.alloc (.cells #[.int .i64 y] 3)) := (Below.refl _ _).alloc (Nat.le_refl _) _
  have hne : ∀ k, ((f x).getD nilV).ownBlock = some k → b < k := fun k hk => ((hir x).lt k hk).1
  have hvm2 : VM 3 mkI b f m w2 := by
    refine VM.same (VM.after hvm ha) (hg.block b (Nat.lt_of_lt_of_le hbl ha.size) (fun e => ?_))
    have := hne b e.symm
    omega
  obtain ⟨a1, c1, e1, -, -⟩ := own_form13 hv'
  obtain ⟨a2, c2, e2, -, -⟩ := own_form13 (hir x)
  refine ⟨f, m, _, hm, hvm, rfl, v', w2, hrun, hvm2, ⟨a1, _, c1, e1⟩, ⟨a2, _, c2, e2⟩, fun bx cs fr hbx => ?_, fun w3 hvm3 hg3 => ?_⟩
  · have hlt := (Array.getElem?_eq_some_iff.1 hbx).1
    refine ⟨((hg.block bx (Nat.lt_of_lt_of_le hlt ha.size) (fun e => ?_)).trans ((ha.block bx hlt))).trans hbx, fun e => ?_⟩
    · rcases (hir x).2 with ⟨h0, _⟩ | ⟨g, cap, cur, hv, _, hgg, _⟩
      · rw [h0] at e; cases e
      · rw [hv] at e
        obtain rfl : bx = g := Option.some.inj e
        rw [hbx] at hgg
        injection hgg with hgg
        injection hgg with _ h5 _
        exact ne_int h5.symm
    · subst e
      obtain ⟨D, ⟨es, clock, hm0, _⟩, _⟩ := hvm
      rw [hbx] at hm0
      cases hm0
  · have hk : ∀ {e s n : Nat} {v : Value} {xs : List Value}, w2.ownsRow (b + 1) e s v n xs → w3.ownsRow (b + 1) e s v n xs := fun hr => hr.kept hg3 (by
      cases hv : Value.ownBlock _ with
      | none => exact .inl rfl
      | some k => exact .inr (fun e => by have := (hr.lt k hv).1; have := Option.some.inj e; omega))
    have hIR : ∀ z, IR (b + 1) (((fun z => if z = x then some v' else f z) z).getD nilV) (G z ++ if z = x then [y] else []) w3 := by
      intro z
      show IR (b + 1) ((if z = x then some v' else f z).getD nilV) _ w3
      by_cases hzx : z = x
      · subst hzx
        rw [if_pos rfl, if_pos rfl]
        exact hk hv'
      · rw [if_neg hzx, if_neg hzx, List.append_nil]
        exact hk (World.ownsRow.kept ((hir z).after ha) hg (hap z x hzx))
    have hBa : Below b w0 (w.alloc (.cells #[.int .i64 y] 3)) := hB.trans (ha.mono (by omega))
    have hB2 : Below b w0 w2 := hBa.grown hg (Nat.le_trans (by omega) ha.size) (fun j hj => by have := hne j hj; omega)
    have hs2 : b + 1 ≤ w2.heap.size := Nat.le_trans (Nat.le_trans hb ha.size) hg.size
    refine ⟨⟨_, _, ?_, hvm3, hIR, fun z t hzt => ?_⟩, hB2.grown hg3 (by omega) (fun j hj => by cases hj; exact Nat.le_refl _), Nat.le_trans hs2 hg3.size⟩
    · split <;> omega
    · show Apt ((if z = x then some v' else f z).getD nilV) ((if t = x then some v' else f t).getD nilV)
      have key : ∀ t, t ≠ x → Apt v' ((f t).getD nilV) := by
        intro t ht
        rcases ho with h1 | ⟨k, h1, h2⟩
        · have := hap x t (Ne.symm ht)
          unfold Apt at this ⊢
          rw [h1]
          exact this
        · exact apt_new ((hir t).after ha) h1 h2
      by_cases h1 : z = x
      · rw [if_pos h1, if_neg (fun e => hzt (h1.trans e.symm))]
        exact key t (fun e => hzt (h1.trans e.symm))
      · rw [if_neg h1]
        by_cases h2 : t = x
        · rw [if_pos h2]
          exact (key z h1).symm
        · rw [if_neg h2]
          exact hap z t hzt
end

end Go.Proofs.YtmcolapcmjdoeaaGreatDoor
