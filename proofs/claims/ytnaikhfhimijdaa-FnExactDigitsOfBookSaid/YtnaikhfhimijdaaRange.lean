/- What impl.CountDigit answers, by ranging over the map of counts in whatever order: how often a digit is in the numbers of a book of 1 to 2000 pages, for the digits 0 to 9. -/
import Derived.Test.YtnaikhfhimijdaaByLength
namespace Go.Proofs.Ytnaikhfhimijdaa
open Go.RowKit Go.WideMaps Go.Maps
/-- what the entries that are no longer to come make together -/
def got (f : Nat → Int) : Nat → (Lit → Bool) → Int
  | 0, _ => 0
  | m + 1, left => got f m left + if left (key m) = true then 0 else f m
def sumTo (f : Nat → Int) : Nat → Int
  | 0 => 0
  | m + 1 => sumTo f m + f m
theorem got_start (f : Nat → Int) (m : Nat) (left : Lit → Bool) (h : ∀ i, i < m → left (key i) = true) : got f m left = 0 := by
  induction m with
  | zero => rfl
  | succ m ih => unfold got; rw [ih (fun i hi => h i (by omega)), if_pos (h m (by omega))]; rfl
theorem got_end (f : Nat → Int) (m : Nat) (left : Lit → Bool) (h : ∀ kl, left kl = false) : got f m left = sumTo f m := by
  induction m with
  | zero => rfl
  | succ m ih => unfold got sumTo; rw [ih, h]; simp
theorem got_miss (f : Nat → Int) (m j : Nat) (left : Lit → Bool) (hj : m ≤ j) : got f m (fun z => left z && !z.sameKey (key j)) = got f m left := by
  induction m with
  | zero => rfl
  | succ m ih =>
    unfold got
    rw [ih (by omega)]
    show got f m left + (if (left (key m) && !(key m).sameKey (key j)) = true then 0 else f m) = _
    rw [sameKey_ne (key_ne (show m ≠ j by omega))]
    simp
theorem got_step (f : Nat → Int) (m j : Nat) (left : Lit → Bool) (hm : m ≤ 4) (hj : j < m) (hl : left (key j) = true) : got f m (fun z => left z && !z.sameKey (key j)) = got f m left + f j := by
  induction m with
  | zero => omega
  | succ m ih =>
    unfold got
    by_cases e : j = m
    · subst e
      rw [got_miss f j j left (Nat.le_refl _)]
      show got f j left + (if (left (key j) && !(key j).sameKey (key j)) = true then 0 else f j) = _
      rw [WideAt.sameKey_self (key_ok j (by omega)).1, hl]
      simp
    · rw [ih (by omega) (by omega)]
      show got f m left + f j + (if (left (key m) && !(key m).sameKey (key j)) = true then 0 else f m) = _
      rw [sameKey_ne (key_ne (show m ≠ j by omega))]
      simp
      omega
theorem got_bd (f : Nat → Int) (m : Nat) (left : Lit → Bool) (h : ∀ i, i < m → 0 ≤ f i ∧ f i ≤ 100000) : 0 ≤ got f m left ∧ got f m left ≤ 100000 * m := by
  induction m with
  | zero => exact ⟨by simp [got], by simp [got]⟩
  | succ m ih =>
    have := ih (fun i hi => h i (by omega))
    have := h m (by omega)
    unfold got
    split <;> omega
theorem cs_add (f a b : Nat) (d : Int) : D.cs f (a + b) d = D.cs f a d + D.cs (f + a) b d := by
  induction b with
  | zero => simp [D.cs]
  | succ b ih =>
    rw [← Nat.add_assoc, D.cs_succ, D.cs_succ, ih, Nat.add_assoc f a b]
    omega
theorem sum_C (p m : Nat) (d : Int) (h1 : 1 ≤ p) (h2 : p ≤ 2000) (hl : Len p m) (hp : p < 10 ^ m) : sumTo (fun i => C p i d) m = D.cs 1 p d := by
  obtain ⟨hm, hl⟩ := hl
  have c0 : 9 ≤ p → C p 0 d = D.cs 1 9 d := fun h => by unfold C; rw [show min p (10 ^ (0 + 1) - 1) = 9 from by simp only [Nat.min_def]; split <;> omega]
  have c1 : 99 ≤ p → C p 1 d = D.cs 10 90 d := fun h => by unfold C; rw [show min p (10 ^ (1 + 1) - 1) = 99 from by simp only [Nat.min_def]; split <;> omega]
  have c2 : 999 ≤ p → C p 2 d = D.cs 100 900 d := fun h => by unfold C; rw [show min p (10 ^ (2 + 1) - 1) = 999 from by simp only [Nat.min_def]; split <;> omega]
  rcases (show m = 0 ∨ m = 1 ∨ m = 2 ∨ m = 3 ∨ m = 4 from by omega) with rfl | rfl | rfl | rfl | rfl
  · omega
  · show 0 + C p 0 d = _
    unfold C
    rw [show min p (10 ^ (0 + 1) - 1) = p from by simp only [Nat.min_def]; split <;> omega, show p + 1 - 10 ^ 0 = p from by omega]
    simp
  · have e : C p 1 d = D.cs 10 (p - 9) d := by
      unfold C
      rw [show min p (10 ^ (1 + 1) - 1) = p from by simp only [Nat.min_def]; split <;> omega, show p + 1 - 10 ^ 1 = p - 9 from by omega]
    show 0 + C p 0 d + C p 1 d = _
    rw [e, c0 (by omega), show D.cs 1 p d = D.cs 1 (9 + (p - 9)) d from by rw [show 9 + (p - 9) = p from by omega], cs_add]
    simp only [Nat.reduceAdd]
    omega
  · have e : C p 2 d = D.cs 100 (p - 99) d := by
      unfold C
      rw [show min p (10 ^ (2 + 1) - 1) = p from by simp only [Nat.min_def]; split <;> omega, show p + 1 - 10 ^ 2 = p - 99 from by omega]
    show 0 + C p 0 d + C p 1 d + C p 2 d = _
    rw [e, c0 (by omega), c1 (by omega), show D.cs 1 p d = D.cs 1 (9 + (90 + (p - 99))) d from by rw [show 9 + (90 + (p - 99)) = p from by omega], cs_add, cs_add]
    simp only [Nat.reduceAdd]
    omega
  · have e : C p 3 d = D.cs 1000 (p - 999) d := by
      unfold C
      rw [show min p (10 ^ (3 + 1) - 1) = p from by simp only [Nat.min_def]; split <;> omega, show p + 1 - 10 ^ 3 = p - 999 from by omega]
    show 0 + C p 0 d + C p 1 d + C p 2 d + C p 3 d = _
    rw [e, c0 (by omega), c1 (by omega), c2 (by omega), show D.cs 1 p d = D.cs 1 (9 + (90 + (900 + (p - 999)))) d from by rw [show 9 + (90 + (900 + (p - 999))) = p from by omega], cs_add, cs_add, cs_add]
    simp only [Nat.reduceAdd]
    omega
theorem C_bd (p i : Nat) (d : Int) (h2 : p ≤ 2000) (hi : i < 4) : 0 ≤ C p i d ∧ C p i d ≤ 100000 := by
  have hm : min p (10 ^ (i + 1) - 1) ≤ p := Nat.min_le_left _ _
  have h10 : 1 ≤ 10 ^ i ∧ 10 ^ i ≤ 1000 := by
    rcases (show i = 0 ∨ i = 1 ∨ i = 2 ∨ i = 3 from by omega) with rfl | rfl | rfl | rfl <;> decide
  have := D.cs_bd (10 ^ i) (min p (10 ^ (i + 1) - 1) + 1 - 10 ^ i) d (by omega)
  unfold C
  omega
/-- the round's entry is one of the lengths' -/
theorem entry_of {p m : Nat} (hm : m ≤ 4) {left : Lit → Bool} (hh : ∀ kl, left kl = true → Maps.has (Dm p m) kl = true) {kl : Lit} (hl : left kl = true) {g : Int → Int} {y : DataW Unit × List MemPlace}
    (hR : R (.agg (row g)) = some y) (hat : ∀ zd, (Dm p m).atKey kl zd = y.1) : ∃ j, j < m ∧ kl = key j ∧ ∀ d, 0 ≤ d → d ≤ 9 → g d = C p j d := by
  obtain ⟨j, hj, rfl⟩ := dm_has p m hm kl (hh kl hl)
  refine ⟨j, hj, rfl, fun d h1 h2 => ?_⟩
  have e := hat (.map [])
  rw [dm_at p m j hm hj, ← Option.some.inj ((R_mk g).symm.trans hR)] at e
  exact (enc_inj e d h1 h2).symm
theorem next_inv : (∀ key kl, keyOf Try.prog 3 key = some kl → ∃ x, key = Value.int .i64 x) := fun key kl h => by
  obtain ⟨x, rfl, _⟩ := Maps.keyOf_int_inv Try.underlying3 h
  exact ⟨x, rfl⟩
def mkRow (g : Int → Int) : Value := .agg #[.int .i64 (g 0), .int .i64 (g 1), .int .i64 (g 2), .int .i64 (g 3), .int .i64 (g 4), .int .i64 (g 5), .int .i64 (g 6), .int .i64 (g 7), .int .i64 (g 8), .int .i64 (g 9)]
theorem row_inv : (∀ v y, R v = some y → ∃ g, v = mkRow g) := fun v y h => by
  obtain ⟨g, rfl, _⟩ := R_inv h
  exact ⟨g, rfl⟩
def HasLeft (p m : Nat) (left : Lit → Bool) : Prop := ∀ kl, left kl = true → Maps.has (Dm p m) kl = true
theorem hasLeft_step {p m : Nat} {left : Lit → Bool} {kl : Lit} (h : HasLeft p m left) : HasLeft p m (fun z => left z && !z.sameKey kl) := fun z hz => h z (by simp at hz; exact hz.1)
def Got (p m : Nat) (d x : Int) (left : Lit → Bool) : Prop := x = got (fun i => C p i d) m left
theorem got_zero {p m : Nat} (hm : m ≤ 4) (d : Int) : Got p m d 0 (Maps.has (Dm p m)) := (got_start _ m _ (fun i hi => dm_mem p m i hm hi)).symm
theorem got_next {p m j : Nat} {d x y : Int} {left : Lit → Bool} (h : Got p m d x left) (hm : m ≤ 4) (hj : j < m) (hl : left (key j) = true) (hy : y = C p j d) : Got p m d (x + y) (fun z => left z && !z.sameKey (key j)) := by
  unfold Got at *
  rw [got_step _ m j left hm hj hl, h, hy]
theorem got_limit {p m : Nat} {d x : Int} {left : Lit → Bool} (h : Got p m d x left) (h2 : p ≤ 2000) (hm : m ≤ 4) : 0 ≤ x ∧ x ≤ 400000 := by
  unfold Got at h
  have := got_bd (fun i => C p i d) m left (fun i hi => C_bd p i d h2 (by omega))
  omega
theorem got_all {p m : Nat} {d x : Int} {left : Lit → Bool} (h : Got p m d x left) (h1 : 1 ≤ p) (h2 : p ≤ 2000) (hl : Len p m) (hp : p < 10 ^ m) (h0 : ∀ kl, left kl = false) : x = D.cs 1 p d := by
  unfold Got at h
  rw [h, got_end _ m left h0, sum_C p m d h1 h2 hl hp]
theorem ret_ok {a b : Int} (h : a = b) : Ending.returned (.tuple #[.int .i64 a, .bool true]) = .returned (.tuple #[.int .i64 b, .bool true]) := by rw [h]
set_option maxRecDepth 100000 in
set_option maxHeartbeats 1000000 in
theorem impl_count0 (p : Nat) (h1 : 1 ≤ p) (h2 : p ≤ 2000) (w : World) :
    Calls Try.prog 30 #[.int .i64 p, .int .i64 0] w fun e w' => e = .returned (.tuple #[.int .i64 (D.cs 1 p 0), .bool true]) ∧ Below w.heap.size w w' := by
  have H41 := Lib.hid (fun w => byLength_any p h1 h2 w)
  go_enter Try.func30, Try.ntmps30
  go_wp2_with (first | (go_at_call 35; refine (isBook_yes _ (by omega) (by omega) _).mono ?_; rintro e w' ⟨rfl, rfl⟩) | (go_at_call 44; refine (isDigit_yes _ (by omega) (by omega) _).mono ?_; rintro e w' ⟨rfl, rfl⟩))
  refine (H41.out _).mono ?_
  rintro e w1 ⟨m, hl, hp, rfl, hown, hb⟩
  have HL := Lib.hid hl
  have HP := Lib.hid hp
  have hm4 : m ≤ 4 := hl.1
  clear hl hp
  go_wp2_with (first | (at_range; refine wpList_range_own _ rfl _ 34 rfl 3 37 law Try.underlying34 R w.heap.size m (Dm p m) rfl hown ?_; intro w0 hrg0 hg0 hs0))
  go_frame
  go_loopw [6] (fun u wr => ∃ (left : Lit → Bool) (cnt : Nat) (x : Int), wr.ranges Try.prog 3 R w.heap.size w1.heap.size m (Dm p m) left cnt ∧ HasLeft p m left ∧ u = .int .i64 x ∧ Got p m 0 x left ∧ Below w.heap.size w wr) (fun _ wr => wr.rangeLeft w.heap.size w1.heap.size)
  case atStart => exact ⟨_, _, 0, hrg0, fun _ h => h, rfl, got_zero hm4 0, hb.grown hg0 hb.size (by simp)⟩
  case round =>
    obtain ⟨left, cnt, x, hrg, hh, rfl, hx, hnx⟩ := hrel
    obtain ⟨x1, x2⟩ := got_limit hx h2 hm4
    go_wp2_with (first | (at_next; refine wpList_next_ranges _ rfl _ rfl 3 law R (Value.int .i64) mkRow next_inv row_inv w.heap.size w1.heap.size m (Dm p m) left cnt rfl hrg ?_ ?_))
    · intro hc0 hl0
      have HX := Lib.hid (got_all hx h1 h2 HL.out HP.out hl0)
      clear hl0
      go_wp2
      go_ret2
      exact ⟨ret_ok HX.out, hnx⟩
    · intro ky g kl y ps w2 cnt2 hkey hlk hR hat hrg1 hlt hg1 hs1 hen
      obtain ⟨j, hj, rfl, hg⟩ := entry_of hm4 hh hlk hR hat
      have hgd := hg 0 (by omega) (by omega)
      have HN := got_next hx hm4 hj hlk hgd
      obtain ⟨y1, y2⟩ := C_bd p j 0 h2 (by omega)
      rw [← hgd] at y1 y2
      have hh' := hasLeft_step (kl := key j) hh
      clear hg hgd hR hat hkey hlk hh
      unfold mkRow at hen ⊢
      go_wp2
      have hB := hnx.grown hg1 hnx.size (fun k hk => by cases hk; exact hb.size)
      have hz := hB.size
      go_roundw
      case rel => exact ⟨_, _, _, hrg1.alloc _, hh', rfl, HN, hB.alloc hz _⟩
      case measure => rw [(hrg1.alloc _).left_eq, hrg.left_eq]; omega
set_option maxRecDepth 100000 in
set_option maxHeartbeats 1000000 in
theorem impl_count1 (p : Nat) (h1 : 1 ≤ p) (h2 : p ≤ 2000) (w : World) :
    Calls Try.prog 30 #[.int .i64 p, .int .i64 1] w fun e w' => e = .returned (.tuple #[.int .i64 (D.cs 1 p 1), .bool true]) ∧ Below w.heap.size w w' := by
  have H41 := Lib.hid (fun w => byLength_any p h1 h2 w)
  go_enter Try.func30, Try.ntmps30
  go_wp2_with (first | (go_at_call 35; refine (isBook_yes _ (by omega) (by omega) _).mono ?_; rintro e w' ⟨rfl, rfl⟩) | (go_at_call 44; refine (isDigit_yes _ (by omega) (by omega) _).mono ?_; rintro e w' ⟨rfl, rfl⟩))
  refine (H41.out _).mono ?_
  rintro e w1 ⟨m, hl, hp, rfl, hown, hb⟩
  have HL := Lib.hid hl
  have HP := Lib.hid hp
  have hm4 : m ≤ 4 := hl.1
  clear hl hp
  go_wp2_with (first | (at_range; refine wpList_range_own _ rfl _ 34 rfl 3 37 law Try.underlying34 R w.heap.size m (Dm p m) rfl hown ?_; intro w0 hrg0 hg0 hs0))
  go_frame
  go_loopw [6] (fun u wr => ∃ (left : Lit → Bool) (cnt : Nat) (x : Int), wr.ranges Try.prog 3 R w.heap.size w1.heap.size m (Dm p m) left cnt ∧ HasLeft p m left ∧ u = .int .i64 x ∧ Got p m 1 x left ∧ Below w.heap.size w wr) (fun _ wr => wr.rangeLeft w.heap.size w1.heap.size)
  case atStart => exact ⟨_, _, 0, hrg0, fun _ h => h, rfl, got_zero hm4 1, hb.grown hg0 hb.size (by simp)⟩
  case round =>
    obtain ⟨left, cnt, x, hrg, hh, rfl, hx, hnx⟩ := hrel
    obtain ⟨x1, x2⟩ := got_limit hx h2 hm4
    go_wp2_with (first | (at_next; refine wpList_next_ranges _ rfl _ rfl 3 law R (Value.int .i64) mkRow next_inv row_inv w.heap.size w1.heap.size m (Dm p m) left cnt rfl hrg ?_ ?_))
    · intro hc0 hl0
      have HX := Lib.hid (got_all hx h1 h2 HL.out HP.out hl0)
      clear hl0
      go_wp2
      go_ret2
      exact ⟨ret_ok HX.out, hnx⟩
    · intro ky g kl y ps w2 cnt2 hkey hlk hR hat hrg1 hlt hg1 hs1 hen
      obtain ⟨j, hj, rfl, hg⟩ := entry_of hm4 hh hlk hR hat
      have hgd := hg 1 (by omega) (by omega)
      have HN := got_next hx hm4 hj hlk hgd
      obtain ⟨y1, y2⟩ := C_bd p j 1 h2 (by omega)
      rw [← hgd] at y1 y2
      have hh' := hasLeft_step (kl := key j) hh
      clear hg hgd hR hat hkey hlk hh
      unfold mkRow at hen ⊢
      go_wp2
      have hB := hnx.grown hg1 hnx.size (fun k hk => by cases hk; exact hb.size)
      have hz := hB.size
      go_roundw
      case rel => exact ⟨_, _, _, hrg1.alloc _, hh', rfl, HN, hB.alloc hz _⟩
      case measure => rw [(hrg1.alloc _).left_eq, hrg.left_eq]; omega
set_option maxRecDepth 100000 in
set_option maxHeartbeats 1000000 in
theorem impl_count2 (p : Nat) (h1 : 1 ≤ p) (h2 : p ≤ 2000) (w : World) :
    Calls Try.prog 30 #[.int .i64 p, .int .i64 2] w fun e w' => e = .returned (.tuple #[.int .i64 (D.cs 1 p 2), .bool true]) ∧ Below w.heap.size w w' := by
  have H41 := Lib.hid (fun w => byLength_any p h1 h2 w)
  go_enter Try.func30, Try.ntmps30
  go_wp2_with (first | (go_at_call 35; refine (isBook_yes _ (by omega) (by omega) _).mono ?_; rintro e w' ⟨rfl, rfl⟩) | (go_at_call 44; refine (isDigit_yes _ (by omega) (by omega) _).mono ?_; rintro e w' ⟨rfl, rfl⟩))
  refine (H41.out _).mono ?_
  rintro e w1 ⟨m, hl, hp, rfl, hown, hb⟩
  have HL := Lib.hid hl
  have HP := Lib.hid hp
  have hm4 : m ≤ 4 := hl.1
  clear hl hp
  go_wp2_with (first | (at_range; refine wpList_range_own _ rfl _ 34 rfl 3 37 law Try.underlying34 R w.heap.size m (Dm p m) rfl hown ?_; intro w0 hrg0 hg0 hs0))
  go_frame
  go_loopw [6] (fun u wr => ∃ (left : Lit → Bool) (cnt : Nat) (x : Int), wr.ranges Try.prog 3 R w.heap.size w1.heap.size m (Dm p m) left cnt ∧ HasLeft p m left ∧ u = .int .i64 x ∧ Got p m 2 x left ∧ Below w.heap.size w wr) (fun _ wr => wr.rangeLeft w.heap.size w1.heap.size)
  case atStart => exact ⟨_, _, 0, hrg0, fun _ h => h, rfl, got_zero hm4 2, hb.grown hg0 hb.size (by simp)⟩
  case round =>
    obtain ⟨left, cnt, x, hrg, hh, rfl, hx, hnx⟩ := hrel
    obtain ⟨x1, x2⟩ := got_limit hx h2 hm4
    go_wp2_with (first | (at_next; refine wpList_next_ranges _ rfl _ rfl 3 law R (Value.int .i64) mkRow next_inv row_inv w.heap.size w1.heap.size m (Dm p m) left cnt rfl hrg ?_ ?_))
    · intro hc0 hl0
      have HX := Lib.hid (got_all hx h1 h2 HL.out HP.out hl0)
      clear hl0
      go_wp2
      go_ret2
      exact ⟨ret_ok HX.out, hnx⟩
    · intro ky g kl y ps w2 cnt2 hkey hlk hR hat hrg1 hlt hg1 hs1 hen
      obtain ⟨j, hj, rfl, hg⟩ := entry_of hm4 hh hlk hR hat
      have hgd := hg 2 (by omega) (by omega)
      have HN := got_next hx hm4 hj hlk hgd
      obtain ⟨y1, y2⟩ := C_bd p j 2 h2 (by omega)
      rw [← hgd] at y1 y2
      have hh' := hasLeft_step (kl := key j) hh
      clear hg hgd hR hat hkey hlk hh
      unfold mkRow at hen ⊢
      go_wp2
      have hB := hnx.grown hg1 hnx.size (fun k hk => by cases hk; exact hb.size)
      have hz := hB.size
      go_roundw
      case rel => exact ⟨_, _, _, hrg1.alloc _, hh', rfl, HN, hB.alloc hz _⟩
      case measure => rw [(hrg1.alloc _).left_eq, hrg.left_eq]; omega
set_option maxRecDepth 100000 in
set_option maxHeartbeats 1000000 in
theorem impl_count3 (p : Nat) (h1 : 1 ≤ p) (h2 : p ≤ 2000) (w : World) :
    Calls Try.prog 30 #[.int .i64 p, .int .i64 3] w fun e w' => e = .returned (.tuple #[.int .i64 (D.cs 1 p 3), .bool true]) ∧ Below w.heap.size w w' := by
  have H41 := Lib.hid (fun w => byLength_any p h1 h2 w)
  go_enter Try.func30, Try.ntmps30
  go_wp2_with (first | (go_at_call 35; refine (isBook_yes _ (by omega) (by omega) _).mono ?_; rintro e w' ⟨rfl, rfl⟩) | (go_at_call 44; refine (isDigit_yes _ (by omega) (by omega) _).mono ?_; rintro e w' ⟨rfl, rfl⟩))
  refine (H41.out _).mono ?_
  rintro e w1 ⟨m, hl, hp, rfl, hown, hb⟩
  have HL := Lib.hid hl
  have HP := Lib.hid hp
  have hm4 : m ≤ 4 := hl.1
  clear hl hp
  go_wp2_with (first | (at_range; refine wpList_range_own _ rfl _ 34 rfl 3 37 law Try.underlying34 R w.heap.size m (Dm p m) rfl hown ?_; intro w0 hrg0 hg0 hs0))
  go_frame
  go_loopw [6] (fun u wr => ∃ (left : Lit → Bool) (cnt : Nat) (x : Int), wr.ranges Try.prog 3 R w.heap.size w1.heap.size m (Dm p m) left cnt ∧ HasLeft p m left ∧ u = .int .i64 x ∧ Got p m 3 x left ∧ Below w.heap.size w wr) (fun _ wr => wr.rangeLeft w.heap.size w1.heap.size)
  case atStart => exact ⟨_, _, 0, hrg0, fun _ h => h, rfl, got_zero hm4 3, hb.grown hg0 hb.size (by simp)⟩
  case round =>
    obtain ⟨left, cnt, x, hrg, hh, rfl, hx, hnx⟩ := hrel
    obtain ⟨x1, x2⟩ := got_limit hx h2 hm4
    go_wp2_with (first | (at_next; refine wpList_next_ranges _ rfl _ rfl 3 law R (Value.int .i64) mkRow next_inv row_inv w.heap.size w1.heap.size m (Dm p m) left cnt rfl hrg ?_ ?_))
    · intro hc0 hl0
      have HX := Lib.hid (got_all hx h1 h2 HL.out HP.out hl0)
      clear hl0
      go_wp2
      go_ret2
      exact ⟨ret_ok HX.out, hnx⟩
    · intro ky g kl y ps w2 cnt2 hkey hlk hR hat hrg1 hlt hg1 hs1 hen
      obtain ⟨j, hj, rfl, hg⟩ := entry_of hm4 hh hlk hR hat
      have hgd := hg 3 (by omega) (by omega)
      have HN := got_next hx hm4 hj hlk hgd
      obtain ⟨y1, y2⟩ := C_bd p j 3 h2 (by omega)
      rw [← hgd] at y1 y2
      have hh' := hasLeft_step (kl := key j) hh
      clear hg hgd hR hat hkey hlk hh
      unfold mkRow at hen ⊢
      go_wp2
      have hB := hnx.grown hg1 hnx.size (fun k hk => by cases hk; exact hb.size)
      have hz := hB.size
      go_roundw
      case rel => exact ⟨_, _, _, hrg1.alloc _, hh', rfl, HN, hB.alloc hz _⟩
      case measure => rw [(hrg1.alloc _).left_eq, hrg.left_eq]; omega
set_option maxRecDepth 100000 in
set_option maxHeartbeats 1000000 in
theorem impl_count4 (p : Nat) (h1 : 1 ≤ p) (h2 : p ≤ 2000) (w : World) :
    Calls Try.prog 30 #[.int .i64 p, .int .i64 4] w fun e w' => e = .returned (.tuple #[.int .i64 (D.cs 1 p 4), .bool true]) ∧ Below w.heap.size w w' := by
  have H41 := Lib.hid (fun w => byLength_any p h1 h2 w)
  go_enter Try.func30, Try.ntmps30
  go_wp2_with (first | (go_at_call 35; refine (isBook_yes _ (by omega) (by omega) _).mono ?_; rintro e w' ⟨rfl, rfl⟩) | (go_at_call 44; refine (isDigit_yes _ (by omega) (by omega) _).mono ?_; rintro e w' ⟨rfl, rfl⟩))
  refine (H41.out _).mono ?_
  rintro e w1 ⟨m, hl, hp, rfl, hown, hb⟩
  have HL := Lib.hid hl
  have HP := Lib.hid hp
  have hm4 : m ≤ 4 := hl.1
  clear hl hp
  go_wp2_with (first | (at_range; refine wpList_range_own _ rfl _ 34 rfl 3 37 law Try.underlying34 R w.heap.size m (Dm p m) rfl hown ?_; intro w0 hrg0 hg0 hs0))
  go_frame
  go_loopw [6] (fun u wr => ∃ (left : Lit → Bool) (cnt : Nat) (x : Int), wr.ranges Try.prog 3 R w.heap.size w1.heap.size m (Dm p m) left cnt ∧ HasLeft p m left ∧ u = .int .i64 x ∧ Got p m 4 x left ∧ Below w.heap.size w wr) (fun _ wr => wr.rangeLeft w.heap.size w1.heap.size)
  case atStart => exact ⟨_, _, 0, hrg0, fun _ h => h, rfl, got_zero hm4 4, hb.grown hg0 hb.size (by simp)⟩
  case round =>
    obtain ⟨left, cnt, x, hrg, hh, rfl, hx, hnx⟩ := hrel
    obtain ⟨x1, x2⟩ := got_limit hx h2 hm4
    go_wp2_with (first | (at_next; refine wpList_next_ranges _ rfl _ rfl 3 law R (Value.int .i64) mkRow next_inv row_inv w.heap.size w1.heap.size m (Dm p m) left cnt rfl hrg ?_ ?_))
    · intro hc0 hl0
      have HX := Lib.hid (got_all hx h1 h2 HL.out HP.out hl0)
      clear hl0
      go_wp2
      go_ret2
      exact ⟨ret_ok HX.out, hnx⟩
    · intro ky g kl y ps w2 cnt2 hkey hlk hR hat hrg1 hlt hg1 hs1 hen
      obtain ⟨j, hj, rfl, hg⟩ := entry_of hm4 hh hlk hR hat
      have hgd := hg 4 (by omega) (by omega)
      have HN := got_next hx hm4 hj hlk hgd
      obtain ⟨y1, y2⟩ := C_bd p j 4 h2 (by omega)
      rw [← hgd] at y1 y2
      have hh' := hasLeft_step (kl := key j) hh
      clear hg hgd hR hat hkey hlk hh
      unfold mkRow at hen ⊢
      go_wp2
      have hB := hnx.grown hg1 hnx.size (fun k hk => by cases hk; exact hb.size)
      have hz := hB.size
      go_roundw
      case rel => exact ⟨_, _, _, hrg1.alloc _, hh', rfl, HN, hB.alloc hz _⟩
      case measure => rw [(hrg1.alloc _).left_eq, hrg.left_eq]; omega
set_option maxRecDepth 100000 in
set_option maxHeartbeats 1000000 in
theorem impl_count5 (p : Nat) (h1 : 1 ≤ p) (h2 : p ≤ 2000) (w : World) :
    Calls Try.prog 30 #[.int .i64 p, .int .i64 5] w fun e w' => e = .returned (.tuple #[.int .i64 (D.cs 1 p 5), .bool true]) ∧ Below w.heap.size w w' := by
  have H41 := Lib.hid (fun w => byLength_any p h1 h2 w)
  go_enter Try.func30, Try.ntmps30
  go_wp2_with (first | (go_at_call 35; refine (isBook_yes _ (by omega) (by omega) _).mono ?_; rintro e w' ⟨rfl, rfl⟩) | (go_at_call 44; refine (isDigit_yes _ (by omega) (by omega) _).mono ?_; rintro e w' ⟨rfl, rfl⟩))
  refine (H41.out _).mono ?_
  rintro e w1 ⟨m, hl, hp, rfl, hown, hb⟩
  have HL := Lib.hid hl
  have HP := Lib.hid hp
  have hm4 : m ≤ 4 := hl.1
  clear hl hp
  go_wp2_with (first | (at_range; refine wpList_range_own _ rfl _ 34 rfl 3 37 law Try.underlying34 R w.heap.size m (Dm p m) rfl hown ?_; intro w0 hrg0 hg0 hs0))
  go_frame
  go_loopw [6] (fun u wr => ∃ (left : Lit → Bool) (cnt : Nat) (x : Int), wr.ranges Try.prog 3 R w.heap.size w1.heap.size m (Dm p m) left cnt ∧ HasLeft p m left ∧ u = .int .i64 x ∧ Got p m 5 x left ∧ Below w.heap.size w wr) (fun _ wr => wr.rangeLeft w.heap.size w1.heap.size)
  case atStart => exact ⟨_, _, 0, hrg0, fun _ h => h, rfl, got_zero hm4 5, hb.grown hg0 hb.size (by simp)⟩
  case round =>
    obtain ⟨left, cnt, x, hrg, hh, rfl, hx, hnx⟩ := hrel
    obtain ⟨x1, x2⟩ := got_limit hx h2 hm4
    go_wp2_with (first | (at_next; refine wpList_next_ranges _ rfl _ rfl 3 law R (Value.int .i64) mkRow next_inv row_inv w.heap.size w1.heap.size m (Dm p m) left cnt rfl hrg ?_ ?_))
    · intro hc0 hl0
      have HX := Lib.hid (got_all hx h1 h2 HL.out HP.out hl0)
      clear hl0
      go_wp2
      go_ret2
      exact ⟨ret_ok HX.out, hnx⟩
    · intro ky g kl y ps w2 cnt2 hkey hlk hR hat hrg1 hlt hg1 hs1 hen
      obtain ⟨j, hj, rfl, hg⟩ := entry_of hm4 hh hlk hR hat
      have hgd := hg 5 (by omega) (by omega)
      have HN := got_next hx hm4 hj hlk hgd
      obtain ⟨y1, y2⟩ := C_bd p j 5 h2 (by omega)
      rw [← hgd] at y1 y2
      have hh' := hasLeft_step (kl := key j) hh
      clear hg hgd hR hat hkey hlk hh
      unfold mkRow at hen ⊢
      go_wp2
      have hB := hnx.grown hg1 hnx.size (fun k hk => by cases hk; exact hb.size)
      have hz := hB.size
      go_roundw
      case rel => exact ⟨_, _, _, hrg1.alloc _, hh', rfl, HN, hB.alloc hz _⟩
      case measure => rw [(hrg1.alloc _).left_eq, hrg.left_eq]; omega
set_option maxRecDepth 100000 in
set_option maxHeartbeats 1000000 in
theorem impl_count6 (p : Nat) (h1 : 1 ≤ p) (h2 : p ≤ 2000) (w : World) :
    Calls Try.prog 30 #[.int .i64 p, .int .i64 6] w fun e w' => e = .returned (.tuple #[.int .i64 (D.cs 1 p 6), .bool true]) ∧ Below w.heap.size w w' := by
  have H41 := Lib.hid (fun w => byLength_any p h1 h2 w)
  go_enter Try.func30, Try.ntmps30
  go_wp2_with (first | (go_at_call 35; refine (isBook_yes _ (by omega) (by omega) _).mono ?_; rintro e w' ⟨rfl, rfl⟩) | (go_at_call 44; refine (isDigit_yes _ (by omega) (by omega) _).mono ?_; rintro e w' ⟨rfl, rfl⟩))
  refine (H41.out _).mono ?_
  rintro e w1 ⟨m, hl, hp, rfl, hown, hb⟩
  have HL := Lib.hid hl
  have HP := Lib.hid hp
  have hm4 : m ≤ 4 := hl.1
  clear hl hp
  go_wp2_with (first | (at_range; refine wpList_range_own _ rfl _ 34 rfl 3 37 law Try.underlying34 R w.heap.size m (Dm p m) rfl hown ?_; intro w0 hrg0 hg0 hs0))
  go_frame
  go_loopw [6] (fun u wr => ∃ (left : Lit → Bool) (cnt : Nat) (x : Int), wr.ranges Try.prog 3 R w.heap.size w1.heap.size m (Dm p m) left cnt ∧ HasLeft p m left ∧ u = .int .i64 x ∧ Got p m 6 x left ∧ Below w.heap.size w wr) (fun _ wr => wr.rangeLeft w.heap.size w1.heap.size)
  case atStart => exact ⟨_, _, 0, hrg0, fun _ h => h, rfl, got_zero hm4 6, hb.grown hg0 hb.size (by simp)⟩
  case round =>
    obtain ⟨left, cnt, x, hrg, hh, rfl, hx, hnx⟩ := hrel
    obtain ⟨x1, x2⟩ := got_limit hx h2 hm4
    go_wp2_with (first | (at_next; refine wpList_next_ranges _ rfl _ rfl 3 law R (Value.int .i64) mkRow next_inv row_inv w.heap.size w1.heap.size m (Dm p m) left cnt rfl hrg ?_ ?_))
    · intro hc0 hl0
      have HX := Lib.hid (got_all hx h1 h2 HL.out HP.out hl0)
      clear hl0
      go_wp2
      go_ret2
      exact ⟨ret_ok HX.out, hnx⟩
    · intro ky g kl y ps w2 cnt2 hkey hlk hR hat hrg1 hlt hg1 hs1 hen
      obtain ⟨j, hj, rfl, hg⟩ := entry_of hm4 hh hlk hR hat
      have hgd := hg 6 (by omega) (by omega)
      have HN := got_next hx hm4 hj hlk hgd
      obtain ⟨y1, y2⟩ := C_bd p j 6 h2 (by omega)
      rw [← hgd] at y1 y2
      have hh' := hasLeft_step (kl := key j) hh
      clear hg hgd hR hat hkey hlk hh
      unfold mkRow at hen ⊢
      go_wp2
      have hB := hnx.grown hg1 hnx.size (fun k hk => by cases hk; exact hb.size)
      have hz := hB.size
      go_roundw
      case rel => exact ⟨_, _, _, hrg1.alloc _, hh', rfl, HN, hB.alloc hz _⟩
      case measure => rw [(hrg1.alloc _).left_eq, hrg.left_eq]; omega
set_option maxRecDepth 100000 in
set_option maxHeartbeats 1000000 in
theorem impl_count7 (p : Nat) (h1 : 1 ≤ p) (h2 : p ≤ 2000) (w : World) :
    Calls Try.prog 30 #[.int .i64 p, .int .i64 7] w fun e w' => e = .returned (.tuple #[.int .i64 (D.cs 1 p 7), .bool true]) ∧ Below w.heap.size w w' := by
  have H41 := Lib.hid (fun w => byLength_any p h1 h2 w)
  go_enter Try.func30, Try.ntmps30
  go_wp2_with (first | (go_at_call 35; refine (isBook_yes _ (by omega) (by omega) _).mono ?_; rintro e w' ⟨rfl, rfl⟩) | (go_at_call 44; refine (isDigit_yes _ (by omega) (by omega) _).mono ?_; rintro e w' ⟨rfl, rfl⟩))
  refine (H41.out _).mono ?_
  rintro e w1 ⟨m, hl, hp, rfl, hown, hb⟩
  have HL := Lib.hid hl
  have HP := Lib.hid hp
  have hm4 : m ≤ 4 := hl.1
  clear hl hp
  go_wp2_with (first | (at_range; refine wpList_range_own _ rfl _ 34 rfl 3 37 law Try.underlying34 R w.heap.size m (Dm p m) rfl hown ?_; intro w0 hrg0 hg0 hs0))
  go_frame
  go_loopw [6] (fun u wr => ∃ (left : Lit → Bool) (cnt : Nat) (x : Int), wr.ranges Try.prog 3 R w.heap.size w1.heap.size m (Dm p m) left cnt ∧ HasLeft p m left ∧ u = .int .i64 x ∧ Got p m 7 x left ∧ Below w.heap.size w wr) (fun _ wr => wr.rangeLeft w.heap.size w1.heap.size)
  case atStart => exact ⟨_, _, 0, hrg0, fun _ h => h, rfl, got_zero hm4 7, hb.grown hg0 hb.size (by simp)⟩
  case round =>
    obtain ⟨left, cnt, x, hrg, hh, rfl, hx, hnx⟩ := hrel
    obtain ⟨x1, x2⟩ := got_limit hx h2 hm4
    go_wp2_with (first | (at_next; refine wpList_next_ranges _ rfl _ rfl 3 law R (Value.int .i64) mkRow next_inv row_inv w.heap.size w1.heap.size m (Dm p m) left cnt rfl hrg ?_ ?_))
    · intro hc0 hl0
      have HX := Lib.hid (got_all hx h1 h2 HL.out HP.out hl0)
      clear hl0
      go_wp2
      go_ret2
      exact ⟨ret_ok HX.out, hnx⟩
    · intro ky g kl y ps w2 cnt2 hkey hlk hR hat hrg1 hlt hg1 hs1 hen
      obtain ⟨j, hj, rfl, hg⟩ := entry_of hm4 hh hlk hR hat
      have hgd := hg 7 (by omega) (by omega)
      have HN := got_next hx hm4 hj hlk hgd
      obtain ⟨y1, y2⟩ := C_bd p j 7 h2 (by omega)
      rw [← hgd] at y1 y2
      have hh' := hasLeft_step (kl := key j) hh
      clear hg hgd hR hat hkey hlk hh
      unfold mkRow at hen ⊢
      go_wp2
      have hB := hnx.grown hg1 hnx.size (fun k hk => by cases hk; exact hb.size)
      have hz := hB.size
      go_roundw
      case rel => exact ⟨_, _, _, hrg1.alloc _, hh', rfl, HN, hB.alloc hz _⟩
      case measure => rw [(hrg1.alloc _).left_eq, hrg.left_eq]; omega
set_option maxRecDepth 100000 in
set_option maxHeartbeats 1000000 in
theorem impl_count8 (p : Nat) (h1 : 1 ≤ p) (h2 : p ≤ 2000) (w : World) :
    Calls Try.prog 30 #[.int .i64 p, .int .i64 8] w fun e w' => e = .returned (.tuple #[.int .i64 (D.cs 1 p 8), .bool true]) ∧ Below w.heap.size w w' := by
  have H41 := Lib.hid (fun w => byLength_any p h1 h2 w)
  go_enter Try.func30, Try.ntmps30
  go_wp2_with (first | (go_at_call 35; refine (isBook_yes _ (by omega) (by omega) _).mono ?_; rintro e w' ⟨rfl, rfl⟩) | (go_at_call 44; refine (isDigit_yes _ (by omega) (by omega) _).mono ?_; rintro e w' ⟨rfl, rfl⟩))
  refine (H41.out _).mono ?_
  rintro e w1 ⟨m, hl, hp, rfl, hown, hb⟩
  have HL := Lib.hid hl
  have HP := Lib.hid hp
  have hm4 : m ≤ 4 := hl.1
  clear hl hp
  go_wp2_with (first | (at_range; refine wpList_range_own _ rfl _ 34 rfl 3 37 law Try.underlying34 R w.heap.size m (Dm p m) rfl hown ?_; intro w0 hrg0 hg0 hs0))
  go_frame
  go_loopw [6] (fun u wr => ∃ (left : Lit → Bool) (cnt : Nat) (x : Int), wr.ranges Try.prog 3 R w.heap.size w1.heap.size m (Dm p m) left cnt ∧ HasLeft p m left ∧ u = .int .i64 x ∧ Got p m 8 x left ∧ Below w.heap.size w wr) (fun _ wr => wr.rangeLeft w.heap.size w1.heap.size)
  case atStart => exact ⟨_, _, 0, hrg0, fun _ h => h, rfl, got_zero hm4 8, hb.grown hg0 hb.size (by simp)⟩
  case round =>
    obtain ⟨left, cnt, x, hrg, hh, rfl, hx, hnx⟩ := hrel
    obtain ⟨x1, x2⟩ := got_limit hx h2 hm4
    go_wp2_with (first | (at_next; refine wpList_next_ranges _ rfl _ rfl 3 law R (Value.int .i64) mkRow next_inv row_inv w.heap.size w1.heap.size m (Dm p m) left cnt rfl hrg ?_ ?_))
    · intro hc0 hl0
      have HX := Lib.hid (got_all hx h1 h2 HL.out HP.out hl0)
      clear hl0
      go_wp2
      go_ret2
      exact ⟨ret_ok HX.out, hnx⟩
    · intro ky g kl y ps w2 cnt2 hkey hlk hR hat hrg1 hlt hg1 hs1 hen
      obtain ⟨j, hj, rfl, hg⟩ := entry_of hm4 hh hlk hR hat
      have hgd := hg 8 (by omega) (by omega)
      have HN := got_next hx hm4 hj hlk hgd
      obtain ⟨y1, y2⟩ := C_bd p j 8 h2 (by omega)
      rw [← hgd] at y1 y2
      have hh' := hasLeft_step (kl := key j) hh
      clear hg hgd hR hat hkey hlk hh
      unfold mkRow at hen ⊢
      go_wp2
      have hB := hnx.grown hg1 hnx.size (fun k hk => by cases hk; exact hb.size)
      have hz := hB.size
      go_roundw
      case rel => exact ⟨_, _, _, hrg1.alloc _, hh', rfl, HN, hB.alloc hz _⟩
      case measure => rw [(hrg1.alloc _).left_eq, hrg.left_eq]; omega
set_option maxRecDepth 100000 in
set_option maxHeartbeats 1000000 in
theorem impl_count9 (p : Nat) (h1 : 1 ≤ p) (h2 : p ≤ 2000) (w : World) :
    Calls Try.prog 30 #[.int .i64 p, .int .i64 9] w fun e w' => e = .returned (.tuple #[.int .i64 (D.cs 1 p 9), .bool true]) ∧ Below w.heap.size w w' := by
  have H41 := Lib.hid (fun w => byLength_any p h1 h2 w)
  go_enter Try.func30, Try.ntmps30
  go_wp2_with (first | (go_at_call 35; refine (isBook_yes _ (by omega) (by omega) _).mono ?_; rintro e w' ⟨rfl, rfl⟩) | (go_at_call 44; refine (isDigit_yes _ (by omega) (by omega) _).mono ?_; rintro e w' ⟨rfl, rfl⟩))
  refine (H41.out _).mono ?_
  rintro e w1 ⟨m, hl, hp, rfl, hown, hb⟩
  have HL := Lib.hid hl
  have HP := Lib.hid hp
  have hm4 : m ≤ 4 := hl.1
  clear hl hp
  go_wp2_with (first | (at_range; refine wpList_range_own _ rfl _ 34 rfl 3 37 law Try.underlying34 R w.heap.size m (Dm p m) rfl hown ?_; intro w0 hrg0 hg0 hs0))
  go_frame
  go_loopw [6] (fun u wr => ∃ (left : Lit → Bool) (cnt : Nat) (x : Int), wr.ranges Try.prog 3 R w.heap.size w1.heap.size m (Dm p m) left cnt ∧ HasLeft p m left ∧ u = .int .i64 x ∧ Got p m 9 x left ∧ Below w.heap.size w wr) (fun _ wr => wr.rangeLeft w.heap.size w1.heap.size)
  case atStart => exact ⟨_, _, 0, hrg0, fun _ h => h, rfl, got_zero hm4 9, hb.grown hg0 hb.size (by simp)⟩
  case round =>
    obtain ⟨left, cnt, x, hrg, hh, rfl, hx, hnx⟩ := hrel
    obtain ⟨x1, x2⟩ := got_limit hx h2 hm4
    go_wp2_with (first | (at_next; refine wpList_next_ranges _ rfl _ rfl 3 law R (Value.int .i64) mkRow next_inv row_inv w.heap.size w1.heap.size m (Dm p m) left cnt rfl hrg ?_ ?_))
    · intro hc0 hl0
      have HX := Lib.hid (got_all hx h1 h2 HL.out HP.out hl0)
      clear hl0
      go_wp2
      go_ret2
      exact ⟨ret_ok HX.out, hnx⟩
    · intro ky g kl y ps w2 cnt2 hkey hlk hR hat hrg1 hlt hg1 hs1 hen
      obtain ⟨j, hj, rfl, hg⟩ := entry_of hm4 hh hlk hR hat
      have hgd := hg 9 (by omega) (by omega)
      have HN := got_next hx hm4 hj hlk hgd
      obtain ⟨y1, y2⟩ := C_bd p j 9 h2 (by omega)
      rw [← hgd] at y1 y2
      have hh' := hasLeft_step (kl := key j) hh
      clear hg hgd hR hat hkey hlk hh
      unfold mkRow at hen ⊢
      go_wp2
      have hB := hnx.grown hg1 hnx.size (fun k hk => by cases hk; exact hb.size)
      have hz := hB.size
      go_roundw
      case rel => exact ⟨_, _, _, hrg1.alloc _, hh', rfl, HN, hB.alloc hz _⟩
      case measure => rw [(hrg1.alloc _).left_eq, hrg.left_eq]; omega
theorem impl_count (p d : Int) (h1 : 1 ≤ p) (h2 : p ≤ 2000) (h3 : 0 ≤ d) (h4 : d ≤ 9) (w : World) :
    Calls Try.prog 30 #[.int .i64 p, .int .i64 d] w fun e w' => e = .returned (.tuple #[.int .i64 (D.cs 1 p.toNat d), .bool true]) ∧ Below w.heap.size w w' := by
  obtain ⟨k, rfl⟩ := Int.eq_ofNat_of_zero_le (show 0 ≤ p by omega)
  rcases (show d = 0 ∨ d = 1 ∨ d = 2 ∨ d = 3 ∨ d = 4 ∨ d = 5 ∨ d = 6 ∨ d = 7 ∨ d = 8 ∨ d = 9 from by omega) with rfl | rfl | rfl | rfl | rfl | rfl | rfl | rfl | rfl | rfl
  · exact impl_count0 k (by omega) (by omega) w
  · exact impl_count1 k (by omega) (by omega) w
  · exact impl_count2 k (by omega) (by omega) w
  · exact impl_count3 k (by omega) (by omega) w
  · exact impl_count4 k (by omega) (by omega) w
  · exact impl_count5 k (by omega) (by omega) w
  · exact impl_count6 k (by omega) (by omega) w
  · exact impl_count7 k (by omega) (by omega) w
  · exact impl_count8 k (by omega) (by omega) w
  · exact impl_count9 k (by omega) (by omega) w
set_option maxRecDepth 100000 in
set_option maxHeartbeats 1000000 in
theorem spec_count (p d : Int) (h1 : 1 ≤ p) (h2 : p ≤ 2000) (h3 : 0 ≤ d) (h4 : d ≤ 9) (w : World) :
    Calls Try.prog 29 #[.int .i64 p, .int .i64 d] w fun e w' => e = .returned (.tuple #[.int .i64 (D.cs 1 p.toNat d), .bool true]) ∧ w = w' := by
  go_enter Try.func29, Try.ntmps29
  go_wp2_with (go_at_call 42; refine (bpDigit_yes _ _ h1 h2 h3 h4 _).mono ?_; rintro e w' ⟨rfl, rfl⟩)
  go_loop [6, 7] (fun n q => ∃ k : Nat, (k : Int) ≤ p ∧ q = .int .i64 ((k : Int) + 1) ∧ n = .int .i64 (D.cs 1 k d)) (fun _ q => (p + 1 - intOf q).toNat)
  case atStart => exact ⟨0, by omega, rfl, rfl⟩
  case round =>
    obtain ⟨k, hk, rfl, rfl⟩ := hrel
    obtain ⟨n1, n2⟩ := D.cs_bd 1 k d (by omega)
    by_cases hlt : (k : Int) + 1 ≤ p
    · have ek : ((k : Int) + 1).toNat = k + 1 := by omega
      have B1 : Hid (∀ w : World, Calls Try.prog 43 #[.int .i64 ((k : Int) + 1), .int .i64 d] w fun e w' => e = .returned (.int .i64 (D.cnt (k + 1) d)) ∧ w = w') := Lib.hid (fun w => by rw [← ek]; exact bpCount_any ((k : Int) + 1) d (by omega) (by omega) w)
      have hb := D.cnt_le (k + 1) d (by omega)
      clear ek
      have HS := Lib.hid (D.cs_succ 1 k d)
      go_wp2_with (go_at_call 43; refine (B1.out _).mono ?_; rintro e w' ⟨rfl, rfl⟩)
      go_round
      case rel => exact ⟨k + 1, by omega, by go_num, by rw [HS.out, Nat.add_comm 1 k]⟩
      case measure => simp [intOf]; omega
    · have E := Lib.hid (show p.toNat = k by omega)
      go_wp2
      go_ret2
      exact ⟨ret_yes (by rw [E.out]), rfl⟩
end Go.Proofs.Ytnaikhfhimijdaa
