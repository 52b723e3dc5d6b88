/- The statements BarcodeLuhns, Makes, Parses, Isbns, Issns of layer 5 over this translation: they return true. -/
import Derived.Test.YtnbjgkhngolhfaaDoorAlive05
namespace Go.Proofs.YtnbjgkhngolhfaaDoor
open Go.RowKit Go.PlainAid

set_option maxHeartbeats 8000000 in
theorem lawLuhns_any (s : ByteArray) (w : World) (hs : s.size ≤ 9223372036854775807) (hT : Tab w) :
    Calls Tryd.prog 3 #[.string s] w fun e w' => e = .returned (.bool true) ∧ Below w.heap.size w w' := by
  obtain ⟨l, rfl⟩ : ∃ l, S l = s := ⟨s.data.toList, rfl⟩
  have c0 := Lib.hid (fun W (hW : Below w.heap.size w W) => alive_any W (hT.on hW))
  have b0 := Below.refl w.heap.size w
  have hsz := S_size l
  by_cases h1000 : 1000 < l.length
  · have d1 : decide ((1000 : Int) < (l.length : Int)) = true := by simp; omega
    generalize S l = s at *
    generalize l.length = n at *
    go_enter Tryd.func3, Tryd.ntmps3
    go_wp2_with fail
    refine (c0.out _ (by assumption)).mono ?_
    rintro e w1 ⟨rfl, c⟩
    have b1 := b0.trans (c.mono b0.size)
    clear c b0
    go_wp2
    go_ret
    exact ⟨rfl, b1⟩
  · have d1 : decide ((1000 : Int) < (l.length : Int)) = false := by simp; omega
    obtain ⟨⟨x, er⟩, h⟩ : ∃ v, luhnI l = v := ⟨_, rfl⟩
    have c1 := Lib.hid (fun W (hW : Below w.heap.size w W) => pLuhn l (by omega) x er h W)
    have c2 := Lib.hid (fun W => refLuhn_any l (by omega) x er h W)
    have hn : l.length ≤ 1000 := by omega
    clear h h1000
    generalize S l = s at *
    generalize l.length = n at *
    go_enter Tryd.func3, Tryd.ntmps3
    go_wp2_with fail
    refine (c1.out _ (by assumption)).mono ?_
    rintro e w1 ⟨rfl, c⟩
    have b1 := b0.trans (c.mono b0.size)
    clear c b0
    go_wp2_with fail
    refine (c2.out _).mono ?_
    rintro e w2 ⟨rfl, rfl⟩
    go_wp2_with fail
    refine (c0.out _ (by assumption)).mono ?_
    rintro e w3 ⟨rfl, c⟩
    have b3 := b1.trans (c.mono b1.size)
    clear c b1
    go_wp2
    go_ret
    exact ⟨rfl, b3⟩

set_option maxHeartbeats 8000000 in
theorem lawParses_any (s : ByteArray) (w : World) (hs : s.size ≤ 9223372036854775807) (hT : Tab w) :
    Calls Tryd.prog 5 #[.string s] w fun e w' => e = .returned (.bool true) ∧ Below w.heap.size w w' := by
  obtain ⟨l, rfl⟩ : ∃ l, S l = s := ⟨s.data.toList, rfl⟩
  have c0 := Lib.hid (fun W (hW : Below w.heap.size w W) => alive_any W (hT.on hW))
  have b0 := Below.refl w.heap.size w
  have hsz := S_size l
  by_cases h1000 : 1000 < l.length
  · have d1 : decide ((1000 : Int) < (l.length : Int)) = true := by simp; omega
    generalize S l = s at *
    generalize l.length = n at *
    go_enter Tryd.func5, Tryd.ntmps5
    go_wp2_with fail
    refine (c0.out _ (by assumption)).mono ?_
    rintro e w1 ⟨rfl, c⟩
    have b1 := b0.trans (c.mono b0.size)
    clear c b0
    go_wp2
    go_ret
    exact ⟨rfl, b1⟩
  · have d1 : decide ((1000 : Int) < (l.length : Int)) = false := by simp; omega
    obtain ⟨⟨x, y, er⟩, h⟩ : ∃ v, parseI l = v := ⟨_, rfl⟩
    have c1 := Lib.hid (fun W (hW : Below w.heap.size w W) => pParse l (by omega) x y er h W)
    have c2 := Lib.hid (fun W => refParse_any l (by omega) x y er h W)
    have hn : l.length ≤ 1000 := by omega
    clear h h1000
    generalize S l = s at *
    generalize l.length = n at *
    go_enter Tryd.func5, Tryd.ntmps5
    go_wp2_with fail
    refine (c1.out _ (by assumption)).mono ?_
    rintro e w1 ⟨rfl, c⟩
    have b1 := b0.trans (c.mono b0.size)
    clear c b0
    go_wp2_with fail
    refine (c2.out _).mono ?_
    rintro e w2 ⟨rfl, c⟩
    have b2 := b1.trans (c.mono b1.size)
    clear c b1
    go_wp2_with fail
    refine (c0.out _ (by assumption)).mono ?_
    rintro e w3 ⟨rfl, c⟩
    have b3 := b2.trans (c.mono b2.size)
    clear c b2
    go_wp2
    go_ret
    exact ⟨rfl, b3⟩

set_option maxHeartbeats 8000000 in
theorem lawIsbns_any (s : ByteArray) (w : World) (hs : s.size ≤ 9223372036854775807) (hT : Tab w) :
    Calls Tryd.prog 6 #[.string s] w fun e w' => e = .returned (.bool true) ∧ Below w.heap.size w w' := by
  obtain ⟨l, rfl⟩ : ∃ l, S l = s := ⟨s.data.toList, rfl⟩
  have c0 := Lib.hid (fun W (hW : Below w.heap.size w W) => alive_any W (hT.on hW))
  have b0 := Below.refl w.heap.size w
  have hsz := S_size l
  by_cases h1000 : 1000 < l.length
  · have d1 : decide ((1000 : Int) < (l.length : Int)) = true := by simp; omega
    generalize S l = s at *
    generalize l.length = n at *
    go_enter Tryd.func6, Tryd.ntmps6
    go_wp2_with fail
    refine (c0.out _ (by assumption)).mono ?_
    rintro e w1 ⟨rfl, c⟩
    have b1 := b0.trans (c.mono b0.size)
    clear c b0
    go_wp2
    go_ret
    exact ⟨rfl, b1⟩
  · have d1 : decide ((1000 : Int) < (l.length : Int)) = false := by simp; omega
    obtain ⟨⟨r, er⟩, h⟩ : ∃ v, isbnI l = v := ⟨_, rfl⟩
    have c1 := Lib.hid (fun W (hW : Below w.heap.size w W) => pIsbn l (by omega) r er h W (hT.on hW))
    have c2 := Lib.hid (fun W => refIsbn_any l (by omega) r er h W)
    have hn : l.length ≤ 1000 := by omega
    clear h h1000
    generalize S l = s at *
    generalize l.length = n at *
    go_enter Tryd.func6, Tryd.ntmps6
    go_wp2_with fail
    refine (c1.out _ (by assumption)).mono ?_
    rintro e w1 ⟨rfl, c⟩
    have b1 := b0.trans (c.mono b0.size)
    clear c b0
    go_wp2_with fail
    refine (c2.out _).mono ?_
    rintro e w2 ⟨rfl, c⟩
    have b2 := b1.trans (c.mono b1.size)
    clear c b1
    go_wp2_with fail
    refine (c0.out _ (by assumption)).mono ?_
    rintro e w3 ⟨rfl, c⟩
    have b3 := b2.trans (c.mono b2.size)
    clear c b2
    go_wp2
    go_ret
    exact ⟨rfl, b3⟩

set_option maxHeartbeats 8000000 in
theorem lawIssns_any (s : ByteArray) (w : World) (hs : s.size ≤ 9223372036854775807) (hT : Tab w) :
    Calls Tryd.prog 7 #[.string s] w fun e w' => e = .returned (.bool true) ∧ Below w.heap.size w w' := by
  obtain ⟨l, rfl⟩ : ∃ l, S l = s := ⟨s.data.toList, rfl⟩
  have c0 := Lib.hid (fun W (hW : Below w.heap.size w W) => alive_any W (hT.on hW))
  have b0 := Below.refl w.heap.size w
  have hsz := S_size l
  by_cases h1000 : 1000 < l.length
  · have d1 : decide ((1000 : Int) < (l.length : Int)) = true := by simp; omega
    generalize S l = s at *
    generalize l.length = n at *
    go_enter Tryd.func7, Tryd.ntmps7
    go_wp2_with fail
    refine (c0.out _ (by assumption)).mono ?_
    rintro e w1 ⟨rfl, c⟩
    have b1 := b0.trans (c.mono b0.size)
    clear c b0
    go_wp2
    go_ret
    exact ⟨rfl, b1⟩
  · have d1 : decide ((1000 : Int) < (l.length : Int)) = false := by simp; omega
    obtain ⟨⟨r, er⟩, h⟩ : ∃ v, issnI l = v := ⟨_, rfl⟩
    have c1 := Lib.hid (fun W (hW : Below w.heap.size w W) => pIssn l (by omega) r er h W)
    have c2 := Lib.hid (fun W => refIssn_any l (by omega) r er h W)
    have hn : l.length ≤ 1000 := by omega
    clear h h1000
    generalize S l = s at *
    generalize l.length = n at *
    go_enter Tryd.func7, Tryd.ntmps7
    go_wp2_with fail
    refine (c1.out _ (by assumption)).mono ?_
    rintro e w1 ⟨rfl, c⟩
    have b1 := b0.trans (c.mono b0.size)
    clear c b0
    go_wp2_with fail
    refine (c2.out _).mono ?_
    rintro e w2 ⟨rfl, c⟩
    have b2 := b1.trans (c.mono b1.size)
    clear c b1
    go_wp2_with fail
    refine (c0.out _ (by assumption)).mono ?_
    rintro e w3 ⟨rfl, c⟩
    have b3 := b2.trans (c.mono b2.size)
    clear c b2
    go_wp2
    go_ret
    exact ⟨rfl, b3⟩

set_option maxHeartbeats 8000000 in
theorem lawMakes_any (k n : Int) (w : World) (hT : Tab w) :
    Calls Tryd.prog 4 #[.int .i64 k, .int .i64 n] w fun e w' => e = .returned (.bool true) ∧ Below w.heap.size w w' := by
  have c0 := Lib.hid (fun W (hW : Below w.heap.size w W) => alive_any W (hT.on hW))
  have b0 := Below.refl w.heap.size w
  obtain ⟨⟨r, er⟩, h⟩ : ∃ v, makeI k n = v := ⟨_, rfl⟩
  have c1 := Lib.hid (fun W (hW : Below w.heap.size w W) => pMake k n r er h W (hT.on hW))
  have c2 := Lib.hid (fun W => refMake_any k n r er h W)
  clear h
  generalize S r = s at *
  go_enter Tryd.func4, Tryd.ntmps4
  go_wp2_with fail
  refine (c1.out _ (by assumption)).mono ?_
  rintro e w1 ⟨rfl, c⟩
  have b1 := b0.trans (c.mono b0.size)
  clear c b0
  go_wp2_with fail
  refine (c2.out _).mono ?_
  rintro e w2 ⟨rfl, c⟩
  have b2 := b1.trans (c.mono b1.size)
  clear c b1
  go_wp2_with fail
  refine (c0.out _ (by assumption)).mono ?_
  rintro e w3 ⟨rfl, c⟩
  have b3 := b2.trans (c.mono b2.size)
  clear c b2
  go_wp2
  go_ret
  exact ⟨rfl, b3⟩
end Go.Proofs.YtnbjgkhngolhfaaDoor
