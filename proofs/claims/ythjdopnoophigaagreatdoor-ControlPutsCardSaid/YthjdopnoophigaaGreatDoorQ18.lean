/- Merged: PC12, E13, Plain13C, Plain13D, C13. -/
import Derived.Test.YthjdopnoophigaaGreatDoorQ17
import Derived.Test.YthjdopnoophigaaGreatDoorQ11
import Derived.Test.YthjdopnoophigaaGreatDoorQ04
namespace Go.Proofs.YthjdopnoophigaaGreatDoor

section
open Go.RowKit Go.PlainAid
set_option maxHeartbeats 16000000 in
set_option maxRecDepth 100000 in
theorem pNorm12_any (l : List UInt8) (hv : validT l = true) (hl : l.length ≤ 9000) (w : World) (_hE : Env w) :
    Calls Tryz.prog 121 #[.string (S l)] w fun e w' => e = .returned (.string (S (normX l))) ∧ Below w.heap.size w w' := by
  obtain ⟨Q, hQ⟩ : ∃ Q, (fun (e : Ending) (w' : World) => e = .returned (.string (S (normX l))) ∧ Below w.heap.size w w') = Q := ⟨_, rfl⟩
  rw [hQ]
  have HQ : RowKit.Hid (∀ W, Below w.heap.size w W → Q (.returned (.string (S (normX l)))) W) := by rw [← hQ]; exact fun W k => ⟨rfl, k⟩
  clear hQ
  have cS := Lib.hid (parts_any l hv (by omega) w _hE)
  have hpl := parts_len l hv
  have hpn : (partsX l).length ≤ 100000 := by
    have h1 := nonE_le ((splG dd l).map cleanX)
    have h2 := spl_len dd l.length l (Nat.le_refl _)
    unfold partsX
    rw [List.length_map] at h1
    omega
  unfold normX normL at HQ
  obtain ⟨P, hP⟩ : ∃ P, partsX l = P := ⟨_, rfl⟩
  rw [hP] at cS hpl hpn HQ
  have HE := Lib.hid (fun (W : World) (hb : Below w.heap.size w W) => _hE.after hb)
  have HC := Lib.hid (fun k (hk : k < P.length) W (hb : Below w.heap.size w W) => cWords (P.getD k []) 9000 (by decide) (by
    obtain ⟨c1, h1, h2, h3⟩ := hpl _ (mem_getD12 P k hk)
    exact ⟨c1, h1, h2, by omega⟩) W (HE.out W hb))
  have HSt := Lib.hid (fun k (hk : k < P.length) => map_take_snoc wordX P k hk)
  have HG := Lib.hid (fun L v W h h2 h3 => cJoin [32] v L W h (by decide) 100000 (by decide) h2 h3)
  have HG2 := Lib.hid (fun L v W h h2 h3 => cJoin dd v L W h (by decide) 100000 (by decide) h2 h3)
  have edd : S dd = ⟨#[45, 45]⟩ := rfl
  have e32 : S [32] = ⟨#[32]⟩ := rfl
  rw [edd] at HG2
  rw [e32] at HG
  obtain ⟨n, hn⟩ : ∃ n, P.length = n := ⟨_, rfl⟩
  rw [hn] at HC HSt hpn
  have HN := Lib.hid hn
  clear hP hpl edd e32 hl hv hn _hE HE
  generalize S l = st at *
  go_enter Tryz.func121, Tryz.ntmps121
  go_wp2_with fail
  refine cS.out.mono ?_
  rintro e w1 ⟨v, rfl, hr1, hb1⟩
  have HP := Lib.hid hr1
  obtain ⟨pa, cpp, rfl, -, -⟩ := hr1.length
  have HB1 := Lib.hid hb1
  have HR0 := Lib.hid (NR.none w1.heap.size w1)
  have HBw0 := Lib.hid (Below.refl w1.heap.size w1)
  rw [HN.out]
  rw [HN.out] at HP
  clear hr1 hb1 cS
  go_wp2
  go_loopw [3, 10] (fun v3 v10 wr => ∃ (k : Nat) (D : List (List UInt8)), v10 = .int .i64 (k : Int) ∧ k ≤ n ∧ D.length ≤ k ∧ RowKit.Hid (∀ y ∈ D, y.length ≤ 100000) ∧ RowKit.Hid (D = nonE ((P.take k).map wordX)) ∧ RowKit.Hid (NR w1.heap.size v3 D wr) ∧ RowKit.Hid (Below w1.heap.size w1 wr)) (fun _ v10 _ => n - (intOf v10).toNat)
  case atStart => exact ⟨0, [], rfl, by omega, Nat.le_refl _, (fun y hy => by cases hy), rfl, HR0, HBw0⟩
  case round =>
    obtain ⟨k, D, rfl, hk, hdk, HDl, HD, HR, HB⟩ := hrel
    clear HR0 HBw0
    by_cases hkn : k < n
    · have i1 : (0 : Int) ≤ (k : Int) := by omega
      have i2 : (k : Int) < (n : Int) := by omega
      obtain ⟨g2, o2, cap2, he, hg, c0⟩ := (HP.out.after HB.out).at12 k (by rw [HN.out]; exact hkn)
      obtain ⟨ha, -, hcp⟩ := Value.slice.inj he
      subst ha
      subst hcp
      clear he
      have cC := Lib.hid (HC.out k hkn wr (HB1.out.trans (HB.out.mono HB1.out.size)))
      have hst := HSt.out k hkn
      obtain ⟨p, hp⟩ : ∃ p, P.getD k [] = p := ⟨_, rfl⟩
      rw [hp] at c0 cC hst
      obtain ⟨y, hy⟩ : ∃ y, wordX p = y := ⟨_, rfl⟩
      rw [hy] at cC hst
      have HSt2 := Lib.hid hst
      clear hp hy hst HC HSt
      generalize S p = sp at *
      go_wp2_with fail
      refine cC.out.mono ?_
      rintro e w2 ⟨vw, M, rfl, hbl, hb2, hgl, hml, hmn, hyl, hne⟩
      obtain ⟨ma, mc, rfl, -, -⟩ := hbl.length
      have HB2 : RowKit.Hid (Below w1.heap.size w1 w2) := HB.out.trans (hb2.mono HB.out.size)
      have HR2 := Lib.hid (HR.out.after hb2)
      have cG := HG.out M _ w2 hbl hml (by omega)
      rw [hgl] at cG
      have CG := Lib.hid cG
      have HYl := Lib.hid hyl
      by_cases h0 : y = []
      · have hM : M = [] := hne.2 h0
        subst hM
        subst h0
        have HD2 : RowKit.Hid (D = nonE ((P.take (k + 1)).map wordX)) := by
          unfold RowKit.Hid
          rw [HSt2.out, nonE_snoc, if_pos rfl]
          exact HD.out
        clear hb2 cC c0 hbl hgl hml hmn hyl cG CG hne
        rw [List.length_nil]
        go_wp2
        go_roundw
        case rel => exact ⟨k + 1, D, by go_num, by omega, by omega, HDl, HD2, HR2, HB2⟩
        case measure => simp [intOf]; omega
      · have hM : M ≠ [] := fun h => h0 (hne.1 h)
        have hMp := List.length_pos_iff.2 hM
        obtain ⟨ml, hmle⟩ : ∃ x, M.length = x := ⟨_, rfl⟩
        rw [hmle] at CG hMp ⊢
        have t1 : decide ((0 : Int) < (ml : Int)) = true := decide_eq_true (by omega)
        have t1n : decide (0 < ml) = true := decide_eq_true hMp
        have HD2 : RowKit.Hid (D ++ [y] = nonE ((P.take (k + 1)).map wordX)) := by
          unfold RowKit.Hid
          rw [HSt2.out, nonE_snoc, if_neg h0, HD.out]
        have HDl2 : RowKit.Hid (∀ z ∈ D ++ [y], z.length ≤ 100000) := by
          intro z hz
          rcases List.mem_append.1 hz with hz | hz
          · exact HDl.out z hz
          · rw [List.mem_singleton.1 hz]; exact HYl.out
        clear hb2 cC c0 hbl hgl hml hmn hyl cG hmle hM hMp hne h0
        go_wp2_with fail
        refine CG.out.mono ?_
        rintro e w3 ⟨rfl, hb3⟩
        have HB3 : RowKit.Hid (Below w1.heap.size w1 w3) := HB2.out.trans (hb3.mono HB2.out.size)
        have HR3 := Lib.hid (HR2.out.after hb3)
        have hsz := HB3.out.size
        clear hb3 CG HR2 HB2 t1 t1n
        go_wp2_with (at_builtin; go_loud (refine append_nr _ rfl _ _ rfl w1.heap.size u3 D y rfl HR3.out rfl (by omega) hsz w1.heap.size w1 (Nat.le_refl _) HB3.out ?_))
        intro v2 w4 hr4 hb4
        (try intro _)
        have hl4 : (D ++ [y]).length ≤ k + 1 := by rw [List.length_append]; simp; omega
        have HR4 := Lib.hid hr4
        have HB4 := Lib.hid hb4
        clear hr4 hb4
        go_wp2
        go_roundw
        case rel => exact ⟨k + 1, D ++ [y], by go_num, by omega, hl4, HDl2, HD2, HR4, HB4⟩
        case measure => simp [intOf]; omega
    · obtain rfl : k = n := by omega
      have hD := HD.out
      have ht : P.take k = P := by rw [← HN.out, List.take_length]
      rw [ht] at hD
      have cG := HG2.out D _ wr HR.out.bl HDl.out (by omega)
      rw [hD] at cG
      have CG := Lib.hid cG
      have HBf := Lib.hid (HB1.out.trans (HB.out.mono HB1.out.size))
      clear ht HD hD cG
      go_wp2_with fail
      refine CG.out.mono ?_
      rintro e w3 ⟨rfl, hb3⟩
      have HBg := Lib.hid (HBf.out.trans (hb3.mono HBf.out.size))
      clear hb3 CG
      go_wp2
      first | exact HQ.out _ HBg.out | (go_ret; exact HQ.out _ HBg.out)
end

section

end

section
theorem firstI_all : ∀ L : List Int, firstI L = 0 → ∀ e ∈ L, e = 0
  | [], _, e, h => by cases h
  | x :: r, h0, e, h => by
    unfold firstI at h0
    rw [List.find?_cons] at h0
    by_cases hx : x = 0
    · subst hx
      have h1 : firstI r = 0 := by
        unfold firstI
        simpa using h0
      rcases List.mem_cons.1 h with rfl | h
      · rfl
      · exact firstI_all r h1 e h
    · have : (x != 0) = true := by simpa using hx
      rw [this] at h0
      exact absurd (by simpa using h0) hx
theorem right_out (l : List Au) (h : rightA l = 0) : l.length ≤ 64 ∧ onesI none l = 0 ∧ (keysX l).Nodup ∧ (∀ a ∈ l, abvE l a = 0) ∧ ∀ a ∈ l, a.id ∉ aboveA l a.id := by
  unfold rightA at h
  split at h
  · cases h
  rename_i h1
  split at h
  · rename_i h2
    exact absurd h h2
  rename_i h2
  split at h
  · cases h
  rename_i h3
  split at h
  · rename_i h4
    exact absurd h h4
  rename_i h4
  split at h
  · cases h
  rename_i h5
  refine ⟨by omega, Decidable.of_not_not h2, Decidable.of_not_not h3, ?_, ?_⟩
  · intro a ha
    exact firstI_all _ (Decidable.of_not_not h4) _ (List.mem_map.2 ⟨a, ha, rfl⟩)
  · intro a ha hm
    exact h5 (List.any_eq_true.2 ⟨a, ha, decide_eq_true hm⟩)
theorem one_out (b : Option Int) (a : Au) (h : oneI b a = 0) : 1 ≤ a.id ∧ a.id ≤ 9999 ∧ (∀ x, b = some x → x < a.id) ∧ shapeI a = 0 := by
  unfold oneI at h
  by_cases h1 : a.id < 1 ∨ 9999 < a.id
  · rw [if_pos h1] at h; cases h
  rw [if_neg h1] at h
  cases b with
  | none =>
    refine ⟨by omega, by omega, (fun x hx => by cases hx), ?_⟩
    simpa using h
  | some y =>
    by_cases h2 : a.id ≤ y
    · simp [h2] at h
    · refine ⟨by omega, by omega, ?_, ?_⟩
      · intro x hx
        obtain rfl := Option.some.inj hx
        omega
      · simpa [h2] using h
/-- IDs ascend, and each authority by itself is right. -/
theorem ones_out : ∀ (l : List Au) (b : Option Int), onesI b l = 0 → (l.Pairwise fun x y => x.id < y.id) ∧ (∀ a ∈ l, shapeI a = 0 ∧ 1 ≤ a.id ∧ a.id ≤ 9999) ∧ ∀ x, b = some x → ∀ a ∈ l, x < a.id
  | [], _, _ => ⟨List.Pairwise.nil, (fun a h => by cases h), fun _ _ a h => by cases h⟩
  | a :: r, b, h => by
    unfold onesI at h
    split at h
    · rename_i h1
      exact absurd h h1
    rename_i h1
    obtain ⟨g1, g2, g3, g4⟩ := one_out b a (Decidable.of_not_not h1)
    obtain ⟨i1, i2, i3⟩ := ones_out r (some a.id) h
    refine ⟨List.Pairwise.cons (i3 a.id rfl) i1, ?_, ?_⟩
    · intro c hc
      rcases List.mem_cons.1 hc with rfl | hc
      · exact ⟨g4, g1, g2⟩
      · exact i2 c hc
    · intro x hx c hc
      have := g3 x hx
      rcases List.mem_cons.1 hc with rfl | hc
      · exact this
      · have := i3 a.id rfl c hc
        omega
theorem get_some (l : List Au) (id : Int) (a : Au) (h : getA l id = some a) : a ∈ l ∧ a.id = id := by
  unfold getA at h
  exact ⟨List.mem_of_find?_eq_some h, by simpa using List.find?_some h⟩
theorem get_none (l : List Au) (id : Int) (h : getA l id = none) : ∀ a ∈ l, a.id ≠ id := by
  intro a ha e
  unfold getA at h
  have := List.find?_eq_none.1 h a ha
  simp [e] at this
theorem get_mem (l : List Au) (id : Int) : (∃ a ∈ l, a.id = id) → ∃ a, getA l id = some a := by
  rintro ⟨a, ha, e⟩
  cases h : getA l id with
  | none => exact absurd e (get_none l id h a ha)
  | some b => exact ⟨b, rfl⟩
theorem get_one (l : List Au) (hp : l.Pairwise fun x y => x.id < y.id) (a : Au) (ha : a ∈ l) : getA l a.id = some a := by
  induction l with
  | nil => cases ha
  | cons b r ih =>
    unfold getA
    rw [List.find?_cons]
    rw [List.pairwise_cons] at hp
    rcases List.mem_cons.1 ha with rfl | ha
    · simp
    · have := hp.1 a ha
      have hne : (b.id == a.id) = false := by
        rw [beq_eq_false_iff_ne]
        omega
      rw [hne]
      exact ih hp.2 ha
theorem find_key (kind : Int) (n : List UInt8) (b : Au) : ∀ l : List Au, (keysX l).Nodup → b ∈ l → b.kind = kind → (∃ h ∈ hdsX b, normX h = n) → ∃ p, findRd l kind n = (b.id, p, true)
  | [], _, hb, _, _ => by cases hb
  | a :: r, hn, hb, hk, hh => by
    have hn2 : (keysA a ++ keysX r).Nodup := by simpa [keysX] using hn
    rw [List.nodup_append] at hn2
    obtain ⟨_, n2, n3⟩ := hn2
    unfold findRd
    by_cases hak : a.kind = kind
    · rw [if_pos hak]
      cases e : findK n (hdsX a) with
      | some k =>
        rcases List.mem_cons.1 hb with rfl | hb
        · exact ⟨_, rfl⟩
        · exfalso
          obtain ⟨h1, h2⟩ := List.findIdx?_eq_some_iff_getElem.1 e
          obtain ⟨h, hh1, hh2⟩ := hh
          have m1 : (kind, n) ∈ keysA a := by
            refine List.mem_map.2 ⟨(hdsX a)[k], List.getElem_mem h1, ?_⟩
            rw [hak, eq_of_beq h2.1]
          have m2 : (kind, n) ∈ keysX r := by
            refine List.mem_flatMap.2 ⟨b, hb, List.mem_map.2 ⟨h, hh1, ?_⟩⟩
            rw [hk, hh2]
          exact n3 _ m1 _ m2 rfl
      | none =>
        rcases List.mem_cons.1 hb with rfl | hb
        · exfalso
          obtain ⟨h, hh1, hh2⟩ := hh
          have := List.findIdx?_eq_none_iff.1 e h hh1
          rw [hh2] at this
          simp at this
        · exact find_key kind n b r n2 hb hk hh
    · rw [if_neg hak]
      rcases List.mem_cons.1 hb with rfl | hb
      · exact absurd hk hak
      · exact find_key kind n b r n2 hb hk hh
theorem shape_norm (a : Au) (h : shapeI a = 0) : ∀ x ∈ hdsX a, normX x ≠ [] := by
  intro x hx
  unfold shapeI at h
  split at h
  · cases h
  split at h
  · rename_i h2
    exact absurd h h2
  rename_i h2
  have := firstI_all _ (Decidable.of_not_not h2) _ (List.mem_map.2 ⟨x, hx, rfl⟩)
  unfold hdE at this
  split at this
  · cases this
  · rename_i h3
    intro e
    exact h3 (.inr (.inr (.inl e)))
/-- A heading of an authority leads to it. -/
theorem find_lead (l : List Au) (hr : rightA l = 0) (b : Au) (hb : b ∈ l) (x h : List UInt8) (hh : h ∈ hdsX b) (he : normX x = normX h) : ∃ p, findA l b.kind x = (b.id, p, true) := by
  obtain ⟨_, r2, r3, _, _⟩ := right_out l hr
  obtain ⟨_, o2, _⟩ := ones_out l none r2
  have hne := shape_norm b (o2 b hb).1 h hh
  unfold findA
  rw [he, if_neg hne]
  exact find_key b.kind (normX h) b l r3 hb rfl ⟨h, hh, rfl⟩
theorem check_out (l x : List Au) (h : checkA l = (x, 0)) : x = l ∧ rightA l = 0 := by
  unfold checkA at h
  split at h
  · rename_i h1
    exact ⟨(Prod.mk.inj h).1.symm, h1⟩
  · rename_i h1
    exact absurd (Prod.mk.inj h).2 h1
theorem mem_insA (a : Au) (x : Au) : ∀ l : List Au, x ∈ insA l a ↔ x = a ∨ x ∈ l
  | [] => by simp [insA]
  | y :: r => by
    have ih := mem_insA a x r
    unfold insA
    split
    · simp
    · simp only [List.mem_cons, ih]
      constructor
      · rintro (h | h | h)
        · exact .inr (.inl h)
        · exact .inl h
        · exact .inr (.inr h)
      · rintro (h | h | h)
        · exact .inr (.inl h)
        · exact .inl h
        · exact .inr (.inr h)
theorem wout_none (l : List Au) (id : Int) (h : ∀ b ∈ l, b.id ≠ id) : woutA l id = l := by
  unfold woutA
  rw [List.filter_eq_self]
  intro b hb
  exact decide_eq_true (h b hb)
theorem wout_ins (a : Au) : ∀ l : List Au, (∀ b ∈ l, b.id ≠ a.id) → woutA (insA l a) a.id = l
  | [], _ => by simp [insA, woutA]
  | y :: r, h => by
    have hy := h y (by simp)
    have hr : ∀ b ∈ r, b.id ≠ a.id := fun b hb => h b (by simp [hb])
    unfold insA
    split
    · have e := wout_none (y :: r) a.id h
      unfold woutA at e ⊢
      rw [List.filter_cons, if_neg (by simp)]
      exact e
    · have ih := wout_ins a r hr
      unfold woutA at ih ⊢
      rw [List.filter_cons, if_pos (decide_eq_true hy), ih]
/-- Remove undoes Add. -/
theorem add_rem (l x : List Au) (a : Au) (hl : rightA l = 0) (h : addA l a = (x, 0)) : rightA x = 0 ∧ remA x a.id = (l, 0) := by
  unfold addA at h
  split at h
  · cases h
  rename_i hg
  obtain ⟨rfl, hx⟩ := check_out _ _ h
  have hno : ∀ b ∈ l, b.id ≠ a.id := by
    refine get_none l a.id ?_
    cases e : getA l a.id with
    | none => rfl
    | some b => rw [e] at hg; exact absurd rfl hg
  refine ⟨hx, ?_⟩
  have ha : a ∈ insA l a := (mem_insA a a l).2 (.inl rfl)
  obtain ⟨b, hb⟩ := get_mem (insA l a) a.id ⟨a, ha, rfl⟩
  obtain ⟨_, _, _, x4, x5⟩ := right_out _ hx
  obtain ⟨_, _, _, l4, _⟩ := right_out _ hl
  unfold remA
  rw [hb]
  have hany : ((insA l a).any fun c => decide (a.id ∈ c.above)) = false := by
    rw [List.any_eq_false]
    intro c hc hm
    have hm : a.id ∈ c.above := of_decide_eq_true hm
    rcases (mem_insA a c l).1 hc with rfl | hc
    · exact x5 c ha (above_closed (insA l c) c.id c ha (.inl rfl) _ hm)
    · have h4 := l4 c hc
      unfold abvE at h4
      split at h4
      · cases h4
      split at h4
      · cases h4
      split at h4
      · cases h4
      rename_i h5
      have h5 : (c.above.all fun n => match getA l n with | some x => decide (x.kind = c.kind) | none => false) = true := by
        cases e : (c.above.all fun n => match getA l n with | some x => decide (x.kind = c.kind) | none => false)
        · exact absurd e h5
        · rfl
      have h6 := List.all_eq_true.1 h5 _ hm
      cases e : getA l a.id with
      | none => rw [e] at h6; cases h6
      | some d =>
        obtain ⟨d1, d2⟩ := get_some l a.id d e
        exact hno d d1 d2
  show (if ((insA l a).any fun c => decide (a.id ∈ c.above)) = true then (([] : List Au), (10 : Int)) else (woutA (insA l a) a.id, 0)) = (l, 0)
  rw [hany, if_neg (by decide), wout_ins a l hno]
end

section
theorem mem_with (l : List Au) (a b : Au) (hb : b ∈ l) (e : b.id = a.id) : a ∈ withA l a :=
  List.mem_map.2 ⟨b, hb, by rw [if_pos e]⟩
theorem ren_keeps (l x : List Au) (id : Int) (h : List UInt8) (a : Au) (hg : getA l id = some a) (hr : renA l id h = (x, 0)) :
    rightA x = 0 ∧ (∃ p, findA x a.kind a.heading = (id, p, true)) ∧ ∃ c, getA x id = some c ∧ c.heading = h := by
  obtain ⟨g1, g2⟩ := get_some l id a hg
  unfold renA at hr
  rw [hg] at hr
  obtain ⟨rfl, hx⟩ := check_out _ _ hr
  refine ⟨hx, ?_, ?_⟩
  · have hm := mem_with l { a with heading := h, see := (a.see.filter fun s => decide (normX s ≠ normX h)) ++ (if normX a.heading ≠ normX h then [a.heading] else []) } a g1 rfl
    by_cases e : normX a.heading = normX h
    · obtain ⟨p, hp⟩ := find_lead _ hx _ hm a.heading h (by simp [hdsX]) e
      exact ⟨p, by rw [← g2]; exact hp⟩
    · obtain ⟨p, hp⟩ := find_lead _ hx _ hm a.heading a.heading (by simp [hdsX, e]) rfl
      exact ⟨p, by rw [← g2]; exact hp⟩
  · have hm := mem_with l { a with heading := h, see := (a.see.filter fun s => decide (normX s ≠ normX h)) ++ (if normX a.heading ≠ normX h then [a.heading] else []) } a g1 rfl
    obtain ⟨_, r2, _, _, _⟩ := right_out _ hx
    obtain ⟨o1, _, _⟩ := ones_out _ none r2
    have := get_one _ o1 _ hm
    exact ⟨_, by rw [← g2]; exact this, rfl⟩
theorem set_keeps (l x : List Au) (id : Int) (above : List Int) (hr : setA l id above = (x, 0)) : rightA x = 0 := by
  unfold setA at hr
  cases e : getA l id with
  | none => rw [e] at hr; cases hr
  | some a =>
    rw [e] at hr
    exact (check_out _ _ hr).1 ▸ (check_out _ _ hr).2
theorem wout_len (g : Int) : ∀ l : List Au, (l.Pairwise fun x y => x.id < y.id) → (∃ b ∈ l, b.id = g) → (woutA l g).length + 1 = l.length
  | [], _, h => by obtain ⟨b, hb, _⟩ := h; cases hb
  | a :: r, hp, h => by
    rw [List.pairwise_cons] at hp
    unfold woutA
    rw [List.filter_cons]
    by_cases e : a.id = g
    · rw [if_neg (by simp [e])]
      have := wout_none r g (fun b hb => by have := hp.1 b hb; omega)
      unfold woutA at this
      rw [this]
      rfl
    · rw [if_pos (decide_eq_true e)]
      obtain ⟨b, hb, eb⟩ := h
      have hb : b ∈ r := by
        rcases List.mem_cons.1 hb with rfl | hb
        · exact absurd eb e
        · exact hb
      have ih := wout_len g r hp.2 ⟨b, hb, eb⟩
      unfold woutA at ih
      rw [List.length_cons, List.length_cons, ih]
theorem wout_with (g : Int) (a : Au) : ∀ l : List Au, (woutA (withA l a) g).length = (woutA l g).length
  | [] => rfl
  | b :: r => by
    have ih := wout_with g a r
    unfold woutA withA at ih ⊢
    rw [List.map_cons, List.filter_cons, List.filter_cons]
    have hid : (if b.id = a.id then a else b).id = b.id := by
      split
      · rename_i e; exact e.symm
      · rfl
    rw [hid]
    split
    · rw [List.length_cons, List.length_cons, ih]
    · exact ih
theorem turn_hds (into gone : Int) (a : Au) : hdsX (turnA into gone a) = hdsX a := rfl
theorem merge_keeps (l x : List Au) (into gone : Int) (a b : Au) (hl : rightA l = 0) (ha : getA l into = some a) (hb : getA l gone = some b) (hr : mergeA l into gone = (x, 0)) :
    rightA x = 0 ∧ x.length + 1 = l.length ∧ (∀ h ∈ hdsX a, ∃ p, findA x a.kind h = (into, p, true)) ∧ ∀ h ∈ hdsX b, ∃ p, findA x b.kind h = (into, p, true) := by
  obtain ⟨a1, a2⟩ := get_some l into a ha
  obtain ⟨b1, b2⟩ := get_some l gone b hb
  unfold mergeA at hr
  rw [ha, hb] at hr
  change (if into = gone ∨ a.kind ≠ b.kind then (([] : List Au), (1 : Int)) else _) = _ at hr
  split at hr
  · cases hr
  rename_i hn
  have hne : into ≠ gone := fun e => hn (.inl e)
  have hk : a.kind = b.kind := Decidable.of_not_not (fun e => hn (.inr e))
  obtain ⟨rfl, hx⟩ := check_out _ _ hr
  obtain ⟨_, r2, _, _, _⟩ := right_out _ hl
  obtain ⟨o1, _, _⟩ := ones_out _ none r2
  have hm : turnA into gone { a with see := a.see ++ hdsX b } ∈ (woutA (withA l { a with see := a.see ++ hdsX b }) gone).map (turnA into gone) := by
    refine List.mem_map.2 ⟨_, ?_, rfl⟩
    unfold woutA
    refine List.mem_filter.2 ⟨mem_with l _ a a1 rfl, decide_eq_true ?_⟩
    show a.id ≠ gone
    rw [a2]
    exact hne
  have lead : ∀ h, h ∈ hdsX a ∨ h ∈ hdsX b → ∃ p, findA ((woutA (withA l { a with see := a.see ++ hdsX b }) gone).map (turnA into gone)) a.kind h = (into, p, true) := by
    intro h hh
    obtain ⟨p, hp⟩ := find_lead _ hx _ hm h h (by
      rw [turn_hds]
      show h ∈ a.heading :: (a.see ++ hdsX b)
      rcases hh with hh | hh
      · unfold hdsX at hh
        rcases List.mem_cons.1 hh with rfl | hh
        · simp
        · simp [hh]
      · simp [hh]) rfl
    refine ⟨p, ?_⟩
    rw [← a2]
    rw [← a2] at hp
    exact hp
  refine ⟨hx, ?_, fun h hh => lead h (.inl hh), fun h hh => ?_⟩
  · rw [List.length_map, wout_with]
    exact wout_len gone l o1 ⟨b, b1, b2⟩
  · rw [← hk]
    exact lead h (.inr hh)
end

section
open Go.RowKit
/-- A file of moderate size, and a little more. -/
def bnd (L : List Au) : Prop := L.length ≤ 64 ∧ ∀ a ∈ L, a.see.length ≤ 100 ∧ a.above.length ≤ 100 ∧ ∀ x ∈ hdsX a, x.length ≤ 1000
theorem small_bnd (L : List Au) (h : smallA L = true) : bnd L := by
  rw [smallA_eq, Bool.and_eq_true, decide_eq_true_iff, List.all_eq_true] at h
  refine ⟨by omega, fun a ha => ?_⟩
  have := h.2 a ha
  unfold smallO at this
  rw [Bool.and_eq_true, Bool.and_eq_true, decide_eq_true_iff, decide_eq_true_iff, List.all_eq_true] at this
  obtain ⟨⟨h1, h2⟩, h3⟩ := this
  unfold hdsX at h1
  rw [List.length_cons] at h1
  exact ⟨by omega, by omega, fun x hx => Nat.le_trans (of_decide_eq_true (h3 x hx)) (by decide)⟩
/-- A later world that keeps what lay in w0, and what a call laid between w and w'. -/
def Kp (w0 w w' W : World) : Prop := (∀ i, i < w0.heap.size → W.heap[i]? = w0.heap[i]?) ∧ (∀ i, w.heap.size ≤ i → i < w'.heap.size → W.heap[i]? = w'.heap[i]?) ∧ w'.heap.size ≤ W.heap.size
theorem Kp.self {w0 w w' : World} (h0 : Below w0.heap.size w0 w) (h : Below w.heap.size w w') : Kp w0 w w' w' :=
  ⟨fun i hi => ((h0.trans (h.mono h0.size)).block i hi), fun _ _ _ => rfl, Nat.le_refl _⟩
theorem Kp.after {w0 w w' W V : World} (h : Kp w0 w w' W) (h0 : w0.heap.size ≤ w'.heap.size) (hb : Below W.heap.size W V) : Kp w0 w w' V :=
  ⟨fun i hi => (hb.block i (Nat.lt_of_lt_of_le (Nat.lt_of_lt_of_le hi h0) h.2.2)).trans (h.1 i hi), fun i h1 h2 => (hb.block i (Nat.lt_of_lt_of_le h2 h.2.2)).trans (h.2.1 i h1 h2), Nat.le_trans h.2.2 hb.size⟩
theorem Kp.set {w0 w w' W : World} (h : Kp w0 w w' W) (a : Addr) (v : Value) (h0 : w0.heap.size ≤ a.block) (h1 : a.block < w.heap.size ∨ w'.heap.size ≤ a.block) : Kp w0 w w' (W.setCell a v) := by
  refine ⟨fun i hi => ?_, fun i g1 g2 => ?_, Nat.le_trans h.2.2 (by simp [World.setCell])⟩
  · rw [Below.heap_setCell W a v i (by omega)]
    exact h.1 i hi
  · rw [Below.heap_setCell W a v i (by omega)]
    exact h.2.1 i g1 g2
end

end Go.Proofs.YthjdopnoophigaaGreatDoor
