import PyProof.Rows.All
import Wide.All
import OpenK.AllK
import Wide.FinOn
import Open.SpecLaws
import KE.OsGo
import HandS.ForSpec
import HandS.Dict
import HandS.Iter
import HandS.WordsDict
import HandS.Walk
import HandS.SortInts
import PySem.Challenge.RW_nothreelines_s04_filled
set_option Elab.async false
set_option linter.all false
set_option maxRecDepth 100000
set_option maxHeartbeats 4000000
namespace Kz
/-! ### third -/
theorem third_zero (x y : Nat) : Kzt3.third 0 x y = 0 := rfl
theorem third_succ (i x y : Nat) : Kzt3.third (i + 1) x y = Kzt3.third i x y + (6 - x / 3 ^ i % 3 - y / 3 ^ i % 3) % 3 * 3 ^ i := by
  unfold Kzt3.third
  rw [List.range_succ, List.map_append, List.foldl_append]
  rfl
theorem third_lt (i x y : Nat) : Kzt3.third i x y < 3 ^ i := by
  induction i with
  | zero => exact Nat.one_pos
  | succ i ih =>
    rw [third_succ, Nat.pow_succ]
    have h : (6 - x / 3 ^ i % 3 - y / 3 ^ i % 3) % 3 < 3 := Nat.mod_lt _ (by decide)
    generalize (6 - x / 3 ^ i % 3 - y / 3 ^ i % 3) % 3 = d at h
    have h2 : d * 3 ^ i ≤ 2 * 3 ^ i := Nat.mul_le_mul_right _ (by omega)
    omega
theorem pow_pos3 (i : Nat) : 0 < 3 ^ i := Nat.pow_pos (by decide)
theorem pow_le81 {i : Nat} (h : i ≤ 4) : 3 ^ i ≤ 81 := Nat.pow_le_pow_right (n := 3) (by decide) h
/-- one turn of the loop, as Python reckons it -/
theorem turn_third (i x y : Nat) :
    (Kzt3.third i x y : Int) + (6 - ((x : Int) / ((3 ^ i : Nat) : Int) % 3 + (y : Int) / ((3 ^ i : Nat) : Int) % 3)) % 3 * ((3 ^ i : Nat) : Int) = ((Kzt3.third (i + 1) x y : Nat) : Int) := by
  rw [third_succ]
  have e1 : (x : Int) / ((3 ^ i : Nat) : Int) % 3 = ((x / 3 ^ i % 3 : Nat) : Int) := rfl
  have e2 : (y : Int) / ((3 ^ i : Nat) : Int) % 3 = ((y / 3 ^ i % 3 : Nat) : Int) := rfl
  rw [e1, e2]
  have h1 : x / 3 ^ i % 3 < 3 := Nat.mod_lt _ (by decide)
  have h2 : y / 3 ^ i % 3 < 3 := Nat.mod_lt _ (by decide)
  generalize x / 3 ^ i % 3 = a at h1
  generalize y / 3 ^ i % 3 = b at h2
  have e3 : (6 - ((a : Int) + (b : Int))) % 3 = (((6 - a - b) % 3 : Nat) : Int) := by omega
  rw [e3, Int.natCast_add, Int.natCast_mul]
theorem turn_pow (i : Nat) : ((3 ^ i : Nat) : Int) * 3 = ((3 ^ (i + 1) : Nat) : Int) := by
  rw [Nat.pow_succ, Int.natCast_mul]
  rfl
/-! ### sets -/
/-- the loop of is_set from its item on -/
def chk (cnt : Nat) : Nat → List Nat → Bool
  | _, [] => true
  | lo, p :: r => if p < lo ∨ cnt ≤ p then false else chk cnt (p + 1) r
theorem chk_nil (cnt lo : Nat) : chk cnt lo [] = true := rfl
theorem chk_cons (cnt lo p : Nat) (r : List Nat) : chk cnt lo (p :: r) = if p < lo ∨ cnt ≤ p then false else chk cnt (p + 1) r := rfl
theorem chk_low {cnt : Nat} : ∀ {s : List Nat} {lo : Nat}, chk cnt lo s = true → ∀ x ∈ s, lo ≤ x ∧ x < cnt
  | [], _, _, x, h => by cases h
  | p :: r, lo, h, x, hx => by
    unfold chk at h
    by_cases c : p < lo ∨ cnt ≤ p
    · rw [if_pos c] at h
      cases h
    · rw [if_neg c] at h
      cases hx with
      | head => omega
      | tail _ hx =>
        have := chk_low h x hx
        omega
theorem chk_ok {cnt : Nat} : ∀ {s : List Nat} {lo : Nat}, chk cnt lo s = (Kzt3.rising s && s.all (fun x => decide (x < cnt)) && decide (∀ x ∈ s.head?, lo ≤ x))
  | [], _ => by simp [chk, Kzt3.rising]
  | [p], lo => by
    simp only [chk, Kzt3.rising]
    by_cases c : p < lo ∨ cnt ≤ p
    · rw [if_pos c]
      simp
      omega
    · rw [if_neg c]
      simp
      omega
  | p :: q :: r, lo => by
    have ih := chk_ok (cnt := cnt) (s := q :: r) (lo := p + 1)
    unfold chk
    rw [ih, show Kzt3.rising (p :: q :: r) = (decide (p < q) && Kzt3.rising (q :: r)) from rfl]
    by_cases c : p < lo ∨ cnt ≤ p
    · rw [if_pos c]
      simp
      omega
    · rw [if_neg c]
      have c1 : p < cnt := by omega
      have c2 : lo ≤ p := by omega
      by_cases d : p < q
      · have d' : p + 1 ≤ q := d
        simp [c1, c2, d, d']
      · have d' : ¬ p + 1 ≤ q := d
        simp [d, d']
theorem chk_set (n : Nat) (s : List Nat) : chk (3 ^ n) 0 s = Kzt3.okSet n s := by
  rw [chk_ok]
  unfold Kzt3.okSet
  simp
/-- what rises -/
theorem chk_pair {cnt : Nat} : ∀ {s : List Nat} {lo : Nat}, chk cnt lo s = true → s.Pairwise (· < ·)
  | [], _, _ => .nil
  | p :: r, lo, h => by
    unfold chk at h
    by_cases c : p < lo ∨ cnt ≤ p
    · rw [if_pos c] at h
      cases h
    · rw [if_neg c] at h
      exact .cons (fun x hx => (chk_low h x hx).1) (chk_pair h)
theorem ok_pair {n : Nat} {s : List Nat} (h : Kzt3.okSet n s = true) : s.Pairwise (· < ·) := chk_pair ((chk_set n s).trans h)
theorem ok_lt {n : Nat} {s : List Nat} (h : Kzt3.okSet n s = true) : ∀ x ∈ s, x < 3 ^ n := fun x hx => (chk_low ((chk_set n s).trans h) x hx).2
/-! ### lists -/
theorem take_more {α : Type} : ∀ {l : List α} {i : Nat} {x : α}, l[i]? = some x → l.take (i + 1) = l.take i ++ [x]
  | [], i, x, h => by simp at h
  | a :: l, 0, x, h => by
    have e : a = x := Option.some.inj h
    subst e
    rfl
  | a :: l, i + 1, x, h => by
    have ih := take_more (l := l) (i := i) (x := x) h
    show a :: l.take (i + 1) = a :: l.take i ++ [x]
    rw [ih]
    rfl
theorem drop_more {α : Type} : ∀ {l : List α} {i : Nat} {x : α}, l[i]? = some x → l.drop i = x :: l.drop (i + 1)
  | [], i, x, h => by simp at h
  | a :: l, 0, x, h => by
    have e : a = x := Option.some.inj h
    subst e
    rfl
  | a :: l, i + 1, x, h => drop_more (l := l) (i := i) (x := x) h
/-! ### threes -/
abbrev Tri := Nat × Nat × Nat
/-- a second point's three, x the first -/
def tri (n : Nat) (s : List Nat) (x y : Nat) : Option Tri := if y < Kzt3.third n x y ∧ s.contains (Kzt3.third n x y) = true then some (x, y, Kzt3.third n x y) else none
theorem fm_none {α β : Type} {f : α → Option β} : ∀ {l : List α}, (∀ x ∈ l, f x = none) → l.filterMap f = []
  | [], _ => rfl
  | a :: l, h => by
    rw [List.filterMap_cons, h a List.mem_cons_self]
    exact fm_none fun x hx => h x (List.mem_cons_of_mem _ hx)
theorem fm_eq {α β : Type} {f g : α → Option β} : ∀ {l : List α}, (∀ x ∈ l, f x = g x) → l.filterMap f = l.filterMap g
  | [], _ => rfl
  | a :: l, h => by
    rw [List.filterMap_cons, List.filterMap_cons, h a List.mem_cons_self, fm_eq fun x hx => h x (List.mem_cons_of_mem _ hx)]
theorem row_of {n : Nat} {s : List Nat} (hs : s.Pairwise (· < ·)) {i x : Nat} (hi : s[i]? = some x) :
    (s.filterMap fun y => let z := Kzt3.third n x y
      if x < y ∧ y < z ∧ s.contains z = true then some (x, y, z) else none) = (s.drop (i + 1)).filterMap (tri n s x) := by
  have e : s = s.take i ++ x :: s.drop (i + 1) := by
    rw [← drop_more hi]
    exact (List.take_append_drop i s).symm
  have hp := hs
  rw [e] at hp
  rw [List.pairwise_append] at hp
  obtain ⟨_, p2, p3⟩ := hp
  rw [List.pairwise_cons] at p2
  have h1 : ∀ (f : Nat → Option Tri), s.filterMap f = (s.take i).filterMap f ++ (x :: s.drop (i + 1)).filterMap f := fun f => by
    conv => lhs; rw [e]
    rw [List.filterMap_append]
  rw [h1, List.filterMap_cons]
  rw [fm_none fun y hy => ?_]
  · have hx : ¬ (x < x ∧ x < Kzt3.third n x x ∧ s.contains (Kzt3.third n x x) = true) := fun c => Nat.lt_irrefl _ c.1
    dsimp only
    rw [if_neg hx]
    dsimp only
    rw [List.nil_append]
    refine fm_eq fun y hy => ?_
    have hxy : x < y := p2.1 y hy
    unfold tri
    by_cases c : y < Kzt3.third n x y ∧ s.contains (Kzt3.third n x y) = true
    · rw [if_pos c, if_pos ⟨hxy, c⟩]
    · rw [if_neg c, if_neg fun q => c q.2]
  · have hyx : y < x := p3 y hy x List.mem_cons_self
    dsimp only
    rw [if_neg fun c => Nat.lt_asymm c.1 hyx]
/-- what the loops have behind i first points -/
def lns (n : Nat) (s : List Nat) (i : Nat) : List Tri := (s.take i).flatMap fun x => s.filterMap fun y => let z := Kzt3.third n x y
  if x < y ∧ y < z ∧ s.contains z = true then some (x, y, z) else none
theorem lns_all (n : Nat) (s : List Nat) : lns n s s.length = Kzt3.threes n s := by
  unfold lns Kzt3.threes
  rw [List.take_length]
theorem lns_more {n : Nat} {s : List Nat} (hs : s.Pairwise (· < ·)) {i x : Nat} (hi : s[i]? = some x) : lns n s (i + 1) = lns n s i ++ (s.drop (i + 1)).filterMap (tri n s x) := by
  unfold lns
  rw [take_more hi, List.flatMap_append, List.flatMap_cons, List.flatMap_nil, List.append_nil, row_of hs hi]
/-- and behind j of the second ones -/
def lnsj (n : Nat) (s : List Nat) (i x j : Nat) : List Tri := lns n s i ++ ((s.drop (i + 1)).take j).filterMap (tri n s x)
theorem lnsj_more {n : Nat} {s : List Nat} {i x j y : Nat} (hj : (s.drop (i + 1))[j]? = some y) : lnsj n s i x (j + 1) = lnsj n s i x j ++ (tri n s x y).toList := by
  unfold lnsj
  rw [take_more hj, List.filterMap_append, List.append_assoc]
  congr 1
theorem lnsj_all {n : Nat} {s : List Nat} (hs : s.Pairwise (· < ·)) {i x : Nat} (hi : s[i]? = some x) : lnsj n s i x (s.drop (i + 1)).length = lns n s (i + 1) := by
  unfold lnsj
  rw [List.take_length, lns_more hs hi]
theorem lns_len {n : Nat} {s : List Nat} (i : Nat) : (lns n s i).length ≤ i * s.length := by
  unfold lns
  induction i with
  | zero => simp
  | succ i ih =>
    cases e : s[i]? with
    | none =>
      have z : s.take (i + 1) = s.take i := by
        rw [List.getElem?_eq_none_iff] at e
        rw [List.take_of_length_le (by omega), List.take_of_length_le e]
      rw [z]
      refine Nat.le_trans ih (Nat.mul_le_mul_right _ (Nat.le_succ i))
    | some x =>
      rw [take_more e, List.flatMap_append, List.length_append, List.flatMap_cons, List.flatMap_nil, List.append_nil, Nat.succ_mul]
      exact Nat.add_le_add ih (List.length_filterMap_le _ _)
theorem lnsj_len {n : Nat} {s : List Nat} {i x j : Nat} : (lnsj n s i x j).length ≤ i * s.length + s.length := by
  unfold lnsj
  rw [List.length_append]
  refine Nat.add_le_add (lns_len i) (Nat.le_trans (List.length_filterMap_le _ _) ?_)
  rw [List.length_take, List.length_drop]
  omega
/-! ### numbers handed in -/
def up (l : List Nat) : List Int := l.map fun (x : Nat) => (x : Int)
theorem up_down {l : List Int} (h : ∀ x ∈ l, 0 ≤ x) : up (l.map Int.toNat) = l := by
  induction l with
  | nil => rfl
  | cons a l ih =>
    show ((a.toNat : Nat) : Int) :: up (l.map Int.toNat) = a :: l
    rw [ih fun x hx => h x (List.mem_cons_of_mem _ hx), Int.toNat_of_nonneg (h a List.mem_cons_self)]
end Kz
namespace Kz
/-! ### the third, digit by digit -/
theorem digit_low {i m : Nat} (h : i < m) (y c : Nat) : (y + c * 3 ^ m) / 3 ^ i % 3 = y / 3 ^ i % 3 := by
  have e : c * 3 ^ m = 3 ^ i * (3 * (c * 3 ^ (m - i - 1))) := by
    have e1 : 3 ^ m = 3 ^ i * (3 * 3 ^ (m - i - 1)) := by
      rw [← Nat.pow_succ', ← Nat.pow_add]
      congr 1
      omega
    rw [e1, Nat.mul_left_comm c, Nat.mul_left_comm c]
  rw [e, Nat.add_mul_div_left _ _ (pow_pos3 i), Nat.add_mul_mod_self_left]
theorem third_low : ∀ {n m : Nat}, n ≤ m → ∀ x y c : Nat, Kzt3.third n x (y + c * 3 ^ m) = Kzt3.third n x y
  | 0, _, _, _, _, _ => rfl
  | n + 1, m, h, x, y, c => by
    rw [third_succ, third_succ, third_low (Nat.le_of_succ_le h), digit_low h]
theorem third_comm (n x y : Nat) : Kzt3.third n x y = Kzt3.third n y x := by
  induction n with
  | zero => rfl
  | succ n ih => rw [third_succ, third_succ, ih, Nat.sub_right_comm]
theorem third_inv0 (n x y : Nat) : Kzt3.third n x (Kzt3.third n x y) = y % 3 ^ n := by
  induction n with
  | zero => rw [third_zero, Nat.pow_zero, Nat.mod_one]
  | succ n ih =>
    rw [third_succ n x (Kzt3.third (n + 1) x y), third_succ n x y, third_low (Nat.le_refl n), ih]
    rw [Nat.mod_pow_succ, Nat.add_mul_div_right _ _ (pow_pos3 n), Nat.div_eq_of_lt (third_lt n x y), Nat.zero_add, Nat.mod_mod, Nat.mul_comm (3 ^ n)]
    congr 2
    have h1 : x / 3 ^ n % 3 < 3 := Nat.mod_lt _ (by decide)
    have h2 : y / 3 ^ n % 3 < 3 := Nat.mod_lt _ (by decide)
    omega
theorem third_self0 (n x : Nat) : Kzt3.third n x x = x % 3 ^ n := by
  induction n with
  | zero => rw [third_zero, Nat.pow_zero, Nat.mod_one]
  | succ n ih =>
    rw [third_succ, ih, Nat.mod_pow_succ, Nat.mul_comm (3 ^ n)]
    congr 2
    have h1 : x / 3 ^ n % 3 < 3 := Nat.mod_lt _ (by decide)
    omega
theorem third_inv {n x y : Nat} (h : y < 3 ^ n) : Kzt3.third n x (Kzt3.third n x y) = y := (third_inv0 n x y).trans (Nat.mod_eq_of_lt h)
theorem third_self {n x : Nat} (h : x < 3 ^ n) : Kzt3.third n x x = x := (third_self0 n x).trans (Nat.mod_eq_of_lt h)
/-- the third of x and y is z just if that of x and z is y -/
theorem third_iff {n x y z : Nat} (hy : y < 3 ^ n) (hz : z < 3 ^ n) : Kzt3.third n x y = z ↔ Kzt3.third n x z = y :=
  ⟨fun e => by rw [← e]; exact third_inv hy, fun e => by rw [← e]; exact third_inv hz⟩
theorem third_left {n x y : Nat} (hx : x < 3 ^ n) (hy : y < 3 ^ n) : Kzt3.third n x y = x ↔ y = x := by
  rw [third_iff hy hx, third_self hx]
  exact eq_comm
theorem third_right {n x y : Nat} (hx : x < 3 ^ n) (hy : y < 3 ^ n) : Kzt3.third n x y = y ↔ x = y := by
  rw [third_comm, third_left hy hx]
/-! ### what may be added -/
theorem may_iff {n : Nat} {s : List Nat} (hs : ∀ y ∈ s, y < 3 ^ n) {x : Nat} (hx : x < 3 ^ n) : Kzt3.may n s x = true ↔ x ∉ s ∧ ∀ y ∈ s, Kzt3.third n x y ∉ s := by
  unfold Kzt3.may
  rw [Bool.and_eq_true, List.all_eq_true]
  constructor
  · rintro ⟨h1, h2⟩
    have n1 : x ∉ s := by simpa using h1
    refine ⟨n1, fun y hy hc => ?_⟩
    have q := h2 y hy
    have e1 : ¬ Kzt3.third n x y = x := fun e => n1 (by rw [← (third_left hx (hs y hy)).mp e]; exact hy)
    have e2 : ¬ Kzt3.third n x y = y := fun e => n1 (by rw [(third_right hx (hs y hy)).mp e]; exact hy)
    simp [hc, e1, e2] at q
  · rintro ⟨h1, h2⟩
    refine ⟨by simpa using h1, fun y hy => ?_⟩
    have q := h2 y hy
    simp [q]
/-- one point more -/
theorem may_more {n : Nat} {s : List Nat} (hs : ∀ y ∈ s, y < 3 ^ n) {x y : Nat} (hx : x < 3 ^ n) (hy : y < 3 ^ n) (hm : Kzt3.may n s y = true) (hxy : y ≠ x) :
    Kzt3.may n (s ++ [x]) y = true ↔ ∀ z ∈ s, Kzt3.third n x z ≠ y := by
  have hs' : ∀ z ∈ s ++ [x], z < 3 ^ n := fun z hz => by
    rcases List.mem_append.mp hz with h | h
    · exact hs z h
    · rw [List.mem_singleton.mp h]; exact hx
  obtain ⟨m1, m2⟩ := (may_iff hs hy).mp hm
  rw [may_iff hs' hy]
  constructor
  · rintro ⟨_, h2⟩ z hz e
    refine h2 x (List.mem_append_right _ (List.mem_singleton.mpr rfl)) (List.mem_append_left _ ?_)
    rw [third_comm, (third_iff (hs z hz) hy).mp e]
    exact hz
  · intro h
    refine ⟨fun c => ?_, fun z hz c => ?_⟩
    · rcases List.mem_append.mp c with q | q
      · exact m1 q
      · exact hxy (List.mem_singleton.mp q)
    · rcases List.mem_append.mp hz with q | q
      · rcases List.mem_append.mp c with r | r
        · exact m2 z q r
        · have e : Kzt3.third n y z = x := List.mem_singleton.mp r
          rw [third_comm, third_iff hy hx] at e
          exact h z q (by rw [third_comm]; exact e)
      · have e : z = x := List.mem_singleton.mp q
        subst e
        rcases List.mem_append.mp c with r | r
        · exact h _ r (by rw [third_comm n y z]; exact third_inv hy)
        · exact hxy ((third_right hy hx).mp (List.mem_singleton.mp r))
/-! ### no three in a line -/
theorem mem_threes {n : Nat} {s : List Nat} {t : Tri} : t ∈ Kzt3.threes n s ↔ t.1 ∈ s ∧ t.2.1 ∈ s ∧ t.2.2 ∈ s ∧ t.1 < t.2.1 ∧ t.2.1 < t.2.2 ∧ t.2.2 = Kzt3.third n t.1 t.2.1 := by
  unfold Kzt3.threes
  rw [List.mem_flatMap]
  constructor
  · rintro ⟨x, hx, h⟩
    obtain ⟨y, hy, e⟩ := List.mem_filterMap.mp h
    dsimp only at e
    by_cases c : x < y ∧ y < Kzt3.third n x y ∧ s.contains (Kzt3.third n x y) = true
    · rw [if_pos c] at e
      cases e
      exact ⟨hx, hy, by simpa using c.2.2, c.1, c.2.1, rfl⟩
    · rw [if_neg c] at e
      cases e
  · obtain ⟨x, y, z⟩ := t
    rintro ⟨hx, hy, hz, h1, h2, h3⟩
    dsimp only at hx hy hz h1 h2 h3
    refine ⟨x, hx, List.mem_filterMap.mpr ⟨y, hy, ?_⟩⟩
    dsimp only
    rw [← h3, if_pos ⟨h1, h2, by simpa using hz⟩]
theorem free_iff {n : Nat} {s : List Nat} (hs : ∀ y ∈ s, y < 3 ^ n) : Kzt3.free n s = true ↔ ∀ x ∈ s, ∀ y ∈ s, x ≠ y → Kzt3.third n x y ∉ s := by
  unfold Kzt3.free
  rw [List.isEmpty_iff]
  constructor
  · intro h x hx y hy ne hc
    have no : ∀ a ∈ s, ∀ b ∈ s, ∀ c ∈ s, a < b → b < c → c = Kzt3.third n a b → False := fun a ha b hb c hc h1 h2 e => by
      have q : ((a, b, c) : Tri) ∈ Kzt3.threes n s := mem_threes.mpr ⟨ha, hb, hc, h1, h2, e⟩
      rw [h] at q
      cases q
    have hX := hs x hx
    have hY := hs y hy
    generalize e : Kzt3.third n x y = z at hc
    have hZ := hs z hc
    have nx : z ≠ x := fun q => ne ((third_left hX hY).mp (e.trans q)).symm
    have ny : z ≠ y := fun q => ne ((third_right hX hY).mp (e.trans q))
    have e2 : Kzt3.third n y x = z := (third_comm n y x).trans e
    have e3 : Kzt3.third n x z = y := (third_iff hY hZ).mp e
    have e4 : Kzt3.third n z x = y := (third_comm n z x).trans e3
    have e5 : Kzt3.third n y z = x := (third_iff hX hZ).mp e2
    have e6 : Kzt3.third n z y = x := (third_comm n z y).trans e5
    rcases Nat.lt_or_gt_of_ne ne with a | a
    · rcases Nat.lt_or_gt_of_ne ny with b | b
      · rcases Nat.lt_or_gt_of_ne nx with c | c
        · exact no z hc x hx y hy c a e4.symm
        · exact no x hx z hc y hy c b e3.symm
      · exact no x hx y hy z hc a b e.symm
    · rcases Nat.lt_or_gt_of_ne nx with b | b
      · rcases Nat.lt_or_gt_of_ne ny with c | c
        · exact no z hc y hy x hx c a e6.symm
        · exact no y hy z hc x hx c b e5.symm
      · exact no y hy x hx z hc a b e2.symm
  · intro h
    cases e : Kzt3.threes n s with
    | nil => rfl
    | cons t r =>
      have q : t ∈ Kzt3.threes n s := by rw [e]; exact List.mem_cons_self
      obtain ⟨h1, h2, h3, h4, _, h6⟩ := mem_threes.mp q
      exact absurd (by rw [← h6]; exact h3) (h _ h1 _ h2 (Nat.ne_of_lt h4))
/-! ### put: one more into a rising row -/
theorem mem_put {x z : Nat} : ∀ {l : List Nat}, z ∈ Kzt3.put x l ↔ z = x ∨ z ∈ l
  | [] => by
    unfold Kzt3.put
    simp
  | y :: l => by
    unfold Kzt3.put
    by_cases c1 : x < y
    · rw [if_pos c1]
      simp
    · rw [if_neg c1]
      by_cases c2 : x = y
      · rw [if_pos c2]
        subst c2
        simp
      · rw [if_neg c2, List.mem_cons, mem_put, List.mem_cons]
        constructor
        · rintro (h | h | h)
          · exact .inr (.inl h)
          · exact .inl h
          · exact .inr (.inr h)
        · rintro (h | h | h)
          · exact .inr (.inl h)
          · exact .inl h
          · exact .inr (.inr h)
theorem put_pair {x : Nat} : ∀ {l : List Nat}, l.Pairwise (· < ·) → (Kzt3.put x l).Pairwise (· < ·)
  | [], _ => List.pairwise_singleton _ _
  | y :: l, h => by
    have h2 := List.pairwise_cons.mp h
    unfold Kzt3.put
    by_cases c1 : x < y
    · rw [if_pos c1]
      exact .cons (fun z hz => by
        rcases List.mem_cons.mp hz with q | q
        · rw [q]; exact c1
        · exact Nat.lt_trans c1 (h2.1 z q)) h
    · rw [if_neg c1]
      by_cases c2 : x = y
      · rw [if_pos c2]
        exact h
      · rw [if_neg c2]
        exact .cons (fun z hz => by
          rcases mem_put.mp hz with q | q
          · omega
          · exact h2.1 z q) (put_pair h2.2)
/-- two rising rows of the same numbers are one -/
theorem rise_ext : ∀ {l m : List Nat}, l.Pairwise (· < ·) → m.Pairwise (· < ·) → (∀ x, x ∈ l ↔ x ∈ m) → l = m
  | [], [], _, _, _ => rfl
  | [], b :: m, _, _, h => absurd ((h b).mpr List.mem_cons_self) (by simp)
  | a :: l, [], _, _, h => absurd ((h a).mp List.mem_cons_self) (by simp)
  | a :: l, b :: m, hl, hm, h => by
    have h1 := List.pairwise_cons.mp hl
    have h2 := List.pairwise_cons.mp hm
    have e : a = b := by
      rcases List.mem_cons.mp ((h a).mp List.mem_cons_self) with q | q
      · exact q
      · rcases List.mem_cons.mp ((h b).mpr List.mem_cons_self) with r | r
        · exact r.symm
        · have := h2.1 a q
          have := h1.1 b r
          omega
    subst e
    congr 1
    refine rise_ext h1.2 h2.2 fun x => ?_
    constructor
    · intro hx
      rcases List.mem_cons.mp ((h x).mp (List.mem_cons_of_mem _ hx)) with q | q
      · subst q
        exact absurd (h1.1 x hx) (Nat.lt_irrefl _)
      · exact q
    · intro hx
      rcases List.mem_cons.mp ((h x).mpr (List.mem_cons_of_mem _ hx)) with q | q
      · subst q
        exact absurd (h2.1 x hx) (Nat.lt_irrefl _)
      · exact q
theorem range_pair (n : Nat) : (List.range n).Pairwise (· < ·) := List.pairwise_lt_range
/-- a rising row is what the range has of it -/
theorem rise_filter {N : Nat} {l : List Nat} (hl : l.Pairwise (· < ·)) (hN : ∀ x ∈ l, x < N) : (List.range N).filter (fun x => l.contains x) = l := by
  refine rise_ext ((range_pair N).filter _) hl fun x => ?_
  rw [List.mem_filter, List.mem_range]
  constructor
  · rintro ⟨_, h⟩
    simpa using h
  · intro h
    exact ⟨hN x h, by simpa using h⟩
end Kz
namespace Kz
theorem contains_congr {s t : List Nat} (h : ∀ z, z ∈ s ↔ z ∈ t) (x : Nat) : s.contains x = t.contains x := by
  rw [Bool.eq_iff_iff, List.contains_iff_mem, List.contains_iff_mem]
  exact h x
/-- what may be added hangs on the set's points alone -/
theorem may_congr {n : Nat} {s t : List Nat} (h : ∀ z, z ∈ s ↔ z ∈ t) (x : Nat) : Kzt3.may n s x = Kzt3.may n t x := by
  unfold Kzt3.may
  rw [contains_congr h x]
  congr 1
  rw [Bool.eq_iff_iff, List.all_eq_true, List.all_eq_true]
  constructor
  · intro q y hy
    rw [← contains_congr h]
    exact q y ((h y).mpr hy)
  · intro q y hy
    rw [contains_congr h]
    exact q y ((h y).mp hy)
theorem may_less {n : Nat} {s t : List Nat} (ht : ∀ y ∈ t, y < 3 ^ n) (h : ∀ z, z ∈ s → z ∈ t) {x : Nat} (hx : x < 3 ^ n) (m : Kzt3.may n t x = true) : Kzt3.may n s x = true := by
  obtain ⟨m1, m2⟩ := (may_iff ht hx).mp m
  exact (may_iff (fun y hy => ht y (h y hy)) hx).mpr ⟨fun c => m1 (h x c), fun y hy c => m2 y (h y hy) (h _ c)⟩
theorem put_snoc {x : Nat} {l : List Nat} : ∀ z, z ∈ Kzt3.put x l ↔ z ∈ l ++ [x] := fun z => by
  rw [mem_put, List.mem_append, List.mem_singleton]
  exact or_comm
/-- point by point: the set behind i points -/
def fil (n : Nat) (s : List Nat) (i : Nat) : List Nat := (List.range i).foldl (fun a x => if Kzt3.may n a x then Kzt3.put x a else a) s
theorem fil_zero (n : Nat) (s : List Nat) : fil n s 0 = s := rfl
theorem fil_more (n : Nat) (s : List Nat) (i : Nat) : fil n s (i + 1) = if Kzt3.may n (fil n s i) i then Kzt3.put i (fil n s i) else fil n s i := by
  unfold fil
  rw [List.range_succ, List.foldl_append]
  rfl
theorem fil_all (n : Nat) (s : List Nat) : fil n s (3 ^ n) = Kzt3.filled n s := rfl
theorem fil_pair {n : Nat} {s : List Nat} (h : s.Pairwise (· < ·)) (i : Nat) : (fil n s i).Pairwise (· < ·) := by
  induction i with
  | zero => exact h
  | succ i ih =>
    rw [fil_more]
    by_cases c : Kzt3.may n (fil n s i) i = true
    · rw [if_pos c]
      exact put_pair ih
    · rw [if_neg c]
      exact ih
theorem fil_lt {n : Nat} {s : List Nat} (h : ∀ x ∈ s, x < 3 ^ n) {i : Nat} (hi : i ≤ 3 ^ n) : ∀ x ∈ fil n s i, x < 3 ^ n := by
  induction i with
  | zero => exact h
  | succ i ih =>
    rw [fil_more]
    by_cases c : Kzt3.may n (fil n s i) i = true
    · rw [if_pos c]
      intro x hx
      rcases mem_put.mp hx with q | q
      · omega
      · exact ih (by omega) x q
    · rw [if_neg c]
      exact ih (by omega)
/-- a rising row of points is no longer than there are points -/
theorem rise_len {N : Nat} {l : List Nat} (hl : l.Pairwise (· < ·)) (hN : ∀ x ∈ l, x < N) : l.length ≤ N := by
  have e := rise_filter hl hN
  have q := List.length_filter_le (fun x => l.contains x) (List.range N)
  rw [e, List.length_range] at q
  exact q
end Kz
namespace Kw
open PySem
def topS (i : Nat) : Stmt := PySem.Challenge.pw_nothreelines_s04_filled.main.body.getD i (.Pass ⟨0, 0, 0, 0⟩)
abbrev sHas : Stmt := topS 5
abbrev sCount : Stmt := topS 6
abbrev sSet : Stmt := topS 7
abbrev sThird : Stmt := topS 8
abbrev sLines : Stmt := topS 9
abbrev sLine : Stmt := topS 10
abbrev sAdd : Stmt := topS 11
abbrev sFill : Stmt := topS 12
abbrev sMain : Stmt := topS 4
end Kw
namespace Kw
open PySem PySem.Spec PyProof.Rows L2
open PySem.W (Codec)
theorem same_upd {H : Hp} {p : Addr} {o : HO} (h : H p = none) : Same H (upd H p o) := fun b x e => by
  rw [upd_ne (ne_of_none e h)]
  exact e
theorem if_t {c : Bool} {A B : Prop} (hc : c = true) (h : A) : if c = true then A else B := by
  rw [if_pos hc]
  exact h
theorem if_f {c : Bool} {A B : Prop} (hc : c = false) (h : B) : if c = true then A else B := by
  rw [hc, if_neg Bool.false_ne_true]
  exact h
def nV (l : List Nat) : List V := l.map fun (x : Nat) => V.int (x : Int)
theorem nV_len (l : List Nat) : (nV l).length = l.length := List.length_map ..
theorem nV_get {l : List Nat} {i : Nat} {y : V} (h : (nV l)[i]? = some y) : ∃ z : Nat, l[i]? = some z ∧ y = V.int (z : Int) := by
  unfold nV at h
  rw [List.getElem?_map] at h
  cases e : l[i]? with
  | none =>
    rw [e] at h
    cases h
  | some z =>
    rw [e] at h
    exact ⟨z, rfl, (Option.some.inj h).symm⟩
theorem nV_ints (l : List Nat) : (Kz.up l).map V.int = nV l := by
  unfold Kz.up nV
  rw [List.map_map]
  rfl
theorem pow_mul {i : Nat} (h : i ≤ 4) : CMul ((3 ^ i : Nat) : Int) 3 := .inr ⟨by decide, by decide⟩
theorem pow_div {i : Nat} (h : i ≤ 4) (x : Int) : CDiv x ((3 ^ i : Nat) : Int) := by
  have h1 := Kz.pow_pos3 i
  have h2 := Kz.pow_le81 h
  exact ⟨by omega, by omega⟩
theorem pow_mulR {i : Nat} (h : i ≤ 4) (x : Int) : CMul x ((3 ^ i : Nat) : Int) := by
  have h1 := Kz.pow_pos3 i
  have h2 := Kz.pow_le81 h
  exact .inr ⟨by omega, by omega⟩
section
variable {P : Program} {w : World} {K : PySem.W.Frag} {mg : Str → Option Value} {base : Heap}
/-! ### has_points -/
def spHas : Sp := fun vs H Q _ => ∃ n : Nat, vs = [.int n] ∧ Q (.bl (Kzt3.okN n)) H
theorem scHas : FnScope ["n"] ["n"] (defScope sHas) := ⟨rfl, rfl, rfl, by decide +kernel, rfl, by decide +kernel, by decide +kernel⟩
theorem ok_has {f : Addr} {fd : FuncData} {k : Nat} {t : Tok} (F : Fun K "has_points" "has_points" sHas f fd) (mM : mg "MOST_NUMBERS" = some (.int 4 t)) : FnOk P w K mg base CX0 (k + 1) f fd ["n"] spHas := by
  refine F.ok scHas (fun vs H Q E h => ?_) (fun cdv A outer s H vs Q E hr h => ?_)
  · obtain ⟨n, rfl, _⟩ := h
    rfl
  · obtain ⟨n, rfl, q⟩ := h
    refine ⟨_, pss_one (ps_ret (pe_and (pe_cmp (pc_le pe_int (pv 0))) (pe_one (pe_cmp (pc_le (pv 0) (pe_glob (v := .int 4) (by rfl) mM ⟨_, rfl⟩)))))), ?_⟩
    refine ⟨.int n, rfl, 1, n, rfl, rfl, _, rfl, ite2 (fun c => ?_) (fun c => ?_)⟩
    · have c1 : (1 : Int) ≤ (n : Int) := of_decide_eq_true c
      have e : Kzt3.okN n = decide ((n : Int) ≤ 4) := by
        unfold Kzt3.okN
        rw [decide_eq_true (show 1 ≤ n by omega), Bool.true_and]
        exact decide_eq_decide.mpr (by omega)
      rw [e] at q
      exact ⟨.int n, rfl, n, 4, rfl, rfl, q⟩
    · have c1 : ¬ (1 : Int) ≤ (n : Int) := fun z => c (decide_eq_true z)
      have e : Kzt3.okN n = false := by
        unfold Kzt3.okN
        rw [decide_eq_false (show ¬ 1 ≤ n by omega), Bool.false_and]
      rw [e] at q
      exact q
theorem okN_le {n : Nat} (h : Kzt3.okN n = true) : n ≤ 4 := by
  unfold Kzt3.okN at h
  rw [Bool.and_eq_true] at h
  exact of_decide_eq_true h.2
/-! ### point_count -/
def spCount : Sp := fun vs H Q _ => ∃ n : Nat, vs = [.int n] ∧ n ≤ 4 ∧ Q (.int ((3 ^ n : Nat) : Int)) H
theorem scCount : FnScope ["n", "count", "i"] ["n"] (defScope sCount) := ⟨rfl, rfl, rfl, by decide +kernel, rfl, by decide +kernel, by decide +kernel⟩
theorem ok_count {f : Addr} {fd : FuncData} {k : Nat} (F : Fun K "point_count" "point_count" sCount f fd) (mr : mg "range" = none) : FnOk P w K mg base CX0 (k + 1) f fd ["n"] spCount := by
  refine F.ok scCount (fun vs H Q E h => ?_) (fun cdv A outer s H vs Q E hr h => ?_)
  · obtain ⟨n, rfl, _⟩ := h
    rfl
  · obtain ⟨n, rfl, hn, q⟩ := h
    refine ⟨_, pss_cons (ps_set (i := 1) scCount.nd rfl (.inl rfl) pe_int)
      (pss_cons (ps_for PassesOwn.never rfl (pi_range1 (by rfl) mr (pa_cons (pv 0) pa_nil)) (pg_name (i := 2) scCount.nd rfl (.inl rfl))
        (pss_one (ps_set (i := 1) scCount.nd rfl (.inl rfl) (pe_op op_mul (pv 1) pe_int))))
      (pss_one (ps_ret (pv 1)))), ?_⟩
    refine ⟨_, rfl, (n : Int), rfl, by omega, by omega, ?_⟩
    refine for_range (lo := 0) (n := n) (fun i σ H' => ∃ v : Option V, σ = [some (.int n), some (.int ((3 ^ i : Nat) : Int)), v] ∧ H' = H) ⟨none, rfl, rfl⟩ ?_ ?_
    · rintro i σ H' hi ⟨v, rfl, rfl⟩
      refine ⟨_, rfl, ((3 ^ i : Nat) : Int), 3, rfl, rfl, pow_mul (by omega), some (.int (0 + i)), ?_, rfl⟩
      rw [← Kz.turn_pow]
      rfl
    · rintro σ H' ⟨v, rfl, rfl⟩
      exact ⟨_, rfl, q⟩
/-! ### is_set -/
def spSet (K : PySem.W.Frag) : Sp := fun vs H Q _ => ∃ (n : Nat) (a : Addr) (l : List Nat), vs = [.int n, .ref a] ∧ n ≤ 4 ∧ SqL K H a (nV l) ∧ Q (.bl (Kzt3.okSet n l)) H
theorem scSet : FnScope ["n", "s", "count", "lowest", "point"] ["n", "s"] (defScope sSet) := ⟨rfl, rfl, rfl, by decide +kernel, rfl, by decide +kernel, by decide +kernel⟩
theorem ok_set {f fC : Addr} {fd fdC : FuncData} {k : Nat} (F : Fun K "is_set" "is_set" sSet f fd) (GC : FnOk P w K mg base CX0 (k + 1) fC fdC ["n"] spCount) (gC : mg "point_count" = some (.ref fC)) (kC : PySem.W.keepIn K (.ref fC) = true) (bC : Binds K fdC ["n"] []) :
    FnOk P w K mg base CX0 (k + 2) f fd ["n", "s"] (spSet K) := by
  refine F.ok scSet (fun vs H Q E h => ?_) (fun cdv A outer s H vs Q E hr h => ?_)
  · obtain ⟨n, a, l, rfl, _⟩ := h
    rfl
  · obtain ⟨n, a, l, rfl, hn, hS, q⟩ := h
    refine ⟨_, pss_cons (ps_set (i := 2) scSet.nd rfl (.inl rfl) (pe_call GC hr (by rfl) gC kC bC .nil pass0 (pa_cons (pv 0) pa_nil)))
      (pss_cons (ps_set (i := 3) scSet.nd rfl (.inl rfl) pe_int)
      (pss_cons (ps_for PassesOwn.never rfl (pi_list (pv 1)) (pg_name (i := 4) scSet.nd rfl (.inl rfl))
        (pss_cons (ps_if (PW.pt (pw_or (pt_cmp (pc_lt (pv 4) (pv 3))) (pw_or1 (pt_cmp (pc_ge (pv 4) (pv 2)))))) (pss_one (ps_ret pe_bl)) pss_nil)
        (pss_one (ps_set (i := 3) scSet.nd rfl (.inl rfl) (pe_op op_add (pv 4) pe_int)))))
      (pss_one (ps_ret pe_bl)))), ?_⟩
    rw [← Kz.chk_set] at q
    refine ⟨_, rfl, n, rfl, hn, ?_⟩
    refine ⟨_, rfl, a, rfl, ⟨_, hS⟩, for_list (K := K) (a := a) (xs := nV l) (fun i σ H' => ∃ (v : Option V) (lo : Nat), σ = [some (.int n), some (.ref a), some (.int ((3 ^ n : Nat) : Int)), some (.int (lo : Int)), v] ∧ H' = H ∧ Kz.chk (3 ^ n) 0 l = Kz.chk (3 ^ n) lo (l.drop i))
      ⟨none, 0, rfl, rfl, rfl⟩ (fun i σ H' _ ⟨_, _, _, e, _⟩ => e ▸ hS) ?_ ?_⟩
    · rintro i y σ H' hi ⟨v, lo, rfl, rfl, ec⟩
      obtain ⟨z, hz, rfl⟩ := nV_get hi
      rw [Kz.drop_more hz, Kz.chk_cons] at ec
      refine ⟨_, rfl, _, rfl, z, lo, rfl, rfl, _, rfl, ?_⟩
      by_cases c1 : z < lo
      · refine if_t (decide_eq_true (Int.ofNat_lt.mpr c1)) (if_t rfl ?_)
        rw [ec, if_pos (.inl c1)] at q
        exact q
      · refine if_f (decide_eq_false fun c => c1 (Int.ofNat_lt.mp c)) ?_
        refine ⟨_, rfl, _, rfl, z, ((3 ^ n : Nat) : Int), rfl, rfl, _, rfl, ?_⟩
        by_cases c2 : 3 ^ n ≤ z
        · refine if_t (decide_eq_true (Int.ofNat_le.mpr c2)) ?_
          rw [ec, if_pos (.inr c2)] at q
          exact q
        · refine if_f (decide_eq_false fun c => c2 (Int.ofNat_le.mp c)) ?_
          rw [if_neg (by omega)] at ec
          exact ⟨_, rfl, z, 1, rfl, rfl, _, z + 1, rfl, rfl, ec⟩
    · rintro σ H' ⟨v, lo, rfl, rfl, ec⟩
      rw [nV_len, List.drop_length, Kz.chk_nil] at ec
      rw [ec] at q
      exact q
/-! ### third_point -/
def spThird : Sp := fun vs H Q _ => ∃ n x y : Nat, vs = [.int n, .int x, .int y] ∧ n ≤ 4 ∧ Q (.int ((Kzt3.third n x y : Nat) : Int)) H
theorem scThird : FnScope ["n", "x", "y", "point", "weight", "i", "both"] ["n", "x", "y"] (defScope sThird) := ⟨rfl, rfl, rfl, by decide +kernel, rfl, by decide +kernel, by decide +kernel⟩
theorem ok_third {f : Addr} {fd : FuncData} {k : Nat} (F : Fun K "third_point" "third_point" sThird f fd) (mr : mg "range" = none) : FnOk P w K mg base CX0 (k + 1) f fd ["n", "x", "y"] spThird := by
  refine F.ok scThird (fun vs H Q E h => ?_) (fun cdv A outer s H vs Q E hr h => ?_)
  · obtain ⟨n, x, y, rfl, _⟩ := h
    rfl
  · obtain ⟨n, x, y, rfl, hn, q⟩ := h
    refine ⟨_, pss_cons (ps_set (i := 3) scThird.nd rfl (.inl rfl) pe_int) (pss_cons (ps_set (i := 4) scThird.nd rfl (.inl rfl) pe_int)
      (pss_cons (ps_for PassesOwn.never rfl (pi_range1 (by rfl) mr (pa_cons (pv 0) pa_nil)) (pg_name (i := 5) scThird.nd rfl (.inl rfl))
        (pss_cons (ps_set (i := 6) scThird.nd rfl (.inl rfl) (pe_op op_add (pe_op op_mod (pe_op op_fdiv (pv 1) (pv 4)) pe_int) (pe_op op_mod (pe_op op_fdiv (pv 2) (pv 4)) pe_int)))
        (pss_cons (ps_set (i := 3) scThird.nd rfl (.inl rfl) (pe_op op_add (pv 3) (pe_op op_mul (pe_op op_mod (pe_op op_sub pe_int (pv 6)) pe_int) (pv 4))))
        (pss_one (ps_set (i := 4) scThird.nd rfl (.inl rfl) (pe_op op_mul (pv 4) pe_int))))))
      (pss_one (ps_ret (pv 3))))), ?_⟩
    refine ⟨_, rfl, (n : Int), rfl, by omega, by omega, ?_⟩
    refine for_range (lo := 0) (n := n) (fun i σ H' => ∃ u v : Option V, σ = [some (.int n), some (.int x), some (.int y), some (.int ((Kzt3.third i x y : Nat) : Int)), some (.int ((3 ^ i : Nat) : Int)), u, v] ∧ H' = H) ⟨none, none, rfl, rfl⟩ ?_ ?_
    · rintro i σ H' hi ⟨u, v, rfl, rfl⟩
      have h3 : (0 : Int) < 3 := by decide
      have hd : ∀ z : Int, CDiv z ((3 ^ i : Nat) : Int) := pow_div (by omega)
      refine ⟨_, rfl, _, rfl, (x : Int), ((3 ^ i : Nat) : Int), rfl, rfl, hd _, _, 3, rfl, rfl, h3, _, rfl, _, rfl, (y : Int), ((3 ^ i : Nat) : Int), rfl, rfl, hd _, _, 3, rfl, rfl, h3, _, _, rfl, rfl, ?_⟩
      refine ⟨_, rfl, _, rfl, 6, _, rfl, rfl, _, 3, rfl, rfl, h3, _, rfl, _, ((3 ^ i : Nat) : Int), rfl, rfl, pow_mulR (by omega) _, ((Kzt3.third i x y : Nat) : Int), _, rfl, rfl, ?_⟩
      refine ⟨_, rfl, ((3 ^ i : Nat) : Int), 3, rfl, rfl, pow_mul (by omega), some (.int (0 + i)), some (.int ((x : Int) / ((3 ^ i : Nat) : Int) % 3 + (y : Int) / ((3 ^ i : Nat) : Int) % 3)), ?_, rfl⟩
      rw [← Kz.turn_pow, ← Kz.turn_third]
      rfl
    · rintro σ H' ⟨u, v, rfl, rfl⟩
      exact ⟨_, rfl, q⟩
/-! ### lines_of -/
def triV (t : Kz.Tri) : List V := [.int (t.1 : Int), .int (t.2.1 : Int), .int (t.2.2 : Int)]
/-- at ts the tuples of l -/
def TriAt (H : Hp) (ts : List Addr) (l : List Kz.Tri) : Prop := ts.map H = l.map fun t => some (HO.tup (triV t))
theorem TriAt.len {H : Hp} {ts : List Addr} {l : List Kz.Tri} (h : TriAt H ts l) : ts.length = l.length := by
  have e := congrArg List.length h
  rwa [List.length_map, List.length_map] at e
theorem TriAt.at {H : Hp} {ts : List Addr} {l : List Kz.Tri} (h : TriAt H ts l) {i : Nat} {t : Addr} (ht : ts[i]? = some t) : ∃ x, l[i]? = some x ∧ H t = some (.tup (triV x)) := by
  have e : (ts.map H)[i]? = (l.map fun t => some (HO.tup (triV t)))[i]? := congrArg (fun z => z[i]?) h
  rw [List.getElem?_map, List.getElem?_map, ht] at e
  cases q : l[i]? with
  | none =>
    rw [q] at e
    cases e
  | some x =>
    rw [q] at e
    exact ⟨x, rfl, Option.some.inj e⟩
theorem TriAt.more {H H' : Hp} {l : List Kz.Tri} : ∀ {ts : List Addr}, TriAt H ts l → (∀ t x, H t = some (.tup (triV x)) → H' t = H t) → TriAt H' ts l := by
  intro ts h k
  refine Eq.trans (List.map_congr_left fun t ht => ?_) h
  obtain ⟨i, hi⟩ := List.getElem?_of_mem ht
  obtain ⟨x, _, e⟩ := h.at hi
  exact k t x e
theorem TriAt.snoc {H : Hp} {ts : List Addr} {l : List Kz.Tri} {t : Addr} {x : Kz.Tri} (h : TriAt H ts l) (ht : H t = some (.tup (triV x))) : TriAt H (ts ++ [t]) (l ++ [x]) := by
  unfold TriAt at h ⊢
  rw [List.map_append, List.map_append, h, List.map_singleton, List.map_singleton, ht]
theorem TriAt.lay {H : Hp} {ts : List Addr} {l : List Kz.Tri} (h : TriAt H ts l) {p : Addr} {o : HO} (hp : H p = none) : TriAt (upd H p o) ts l := h.more fun _ _ e => upd_ne (ne_of_none e hp)
theorem TriAt.put {H : Hp} {ts : List Addr} {l : List Kz.Tri} (h : TriAt H ts l) {p : Addr} {xs ys : List V} (hp : H p = some (.lst xs)) : TriAt (upd H p (.lst ys)) ts l := h.more fun _ _ e => upd_ne (ne_of e hp (by intro z; cases z))
theorem drop_cut (xs : List V) (i : Nat) : cutV xs (some ((i : Int) + 1)) none = xs.drop (i + 1) := by
  unfold cutV
  rw [show HT.sIx xs.length 0 (some ((i : Int) + 1)) = min (i + 1) xs.length from HT.sIx_nat xs.length 0 (i + 1), HT.sIx_none]
  by_cases c : i + 1 ≤ xs.length
  · rw [Nat.min_eq_left c, List.take_of_length_le (by rw [List.length_drop]; omega)]
  · rw [Nat.min_eq_right (by omega), List.drop_length, List.drop_of_length_le (by omega), List.take_nil]
theorem nV_drop (l : List Nat) (i : Nat) : (nV l).drop i = nV (l.drop i) := (List.map_drop ..).symm
theorem big_line {n : Nat} (h : n ≤ 100000) : n < sizeLine := Nat.lt_of_le_of_lt h (by decide)
/-- the dict of the points -/
def Mem (kvs : List (Key × V)) (l : List Nat) : Prop := ∀ k : Nat, (valV kvs (Sum.inl (k : Int))).isSome = l.contains k
theorem Mem.put {kvs : List (Key × V)} {l : List Nat} (h : Mem kvs l) (z : Nat) (v : V) : Mem (putK kvs (Sum.inl (z : Int)) v) (l ++ [z]) := fun k => by
  rw [valV_put, List.contains_append]
  by_cases e : k = z
  · subst e
    rw [if_pos rfl]
    simp
  · have e2 : ¬ (Sum.inl (k : Int) : Key) = Sum.inl (z : Int) := fun q => e (Int.ofNat.inj (Sum.inl.inj q))
    rw [if_neg e2, h k]
    simp [e]
def spLines (K : PySem.W.Frag) : Sp := fun vs H Q _ => ∃ (n : Nat) (a : Addr) (l : List Nat), vs = [.int n, .ref a] ∧ n ≤ 4 ∧ SqL K H a (nV l) ∧ l.length ≤ 100 ∧ l.Pairwise (· < ·) ∧
  ∀ (H' : Hp) (p : Addr) (ts : List Addr), Same H H' → H' p = some (.lst (ts.map V.ref)) → TriAt H' ts (Kzt3.threes n l) → Q (.ref p) H'
theorem scLines : FnScope ["n", "s", "members", "point", "lines", "i", "first", "second", "last"] ["n", "s"] (defScope sLines) := ⟨rfl, rfl, rfl, by decide +kernel, rfl, by decide +kernel, by decide +kernel⟩
theorem ok_lines {f fT : Addr} {fd fdT : FuncData} {k : Nat} (F : Fun K "lines_of" "lines_of" sLines f fd) (GT : FnOk P w K mg base CX0 (k + 1) fT fdT ["n", "x", "y"] spThird) (gT : mg "third_point" = some (.ref fT)) (kT : PySem.W.keepIn K (.ref fT) = true) (bT : Binds K fdT ["n", "x", "y"] []) (me : mg "enumerate" = none) :
    FnOk P w K mg base CX0 (k + 2) f fd ["n", "s"] (spLines K) := by
  refine F.ok scLines (fun vs H Q E h => ?_) (fun cdv A outer s H vs Q E hr h => ?_)
  · obtain ⟨n, a, l, rfl, _⟩ := h
    rfl
  · obtain ⟨n, a, l, rfl, hn, hS, hl, hp, q⟩ := h
    have hu := hu_of hr
    refine ⟨_, pss_cons (ps_set (i := 2) scLines.nd rfl (.inl rfl) pe_dnewK)
      (pss_cons (ps_for PassesOwn.never rfl (pi_list (pv 1)) (pg_name (i := 3) scLines.nd rfl (.inl rfl)) (pss_one (ps_dput hu (pv 2) (pv 3) pe_bl rfl)))
      (pss_cons (ps_set (i := 4) scLines.nd rfl (.inl rfl) (pe_lst pa_nil))
      (pss_cons (ps_for PassesOwn.never rfl (pi_enum (by rfl) me (pa_cons (pv 1) pa_nil)) (pg_tup rfl (pgs_cons (pg_name (i := 5) scLines.nd rfl (.inl rfl)) (pgs_cons (pg_name (i := 6) scLines.nd rfl (.inl rfl)) pgs_nil)))
        (pss_one (ps_for PassesOwn.never rfl (pi_list (pe_slice sl_list (pv 1) (po_some (pe_op op_add (pv 5) pe_int)) po_none)) (pg_name (i := 7) scLines.nd rfl (.inl rfl))
          (pss_cons (ps_set (i := 8) scLines.nd rfl (.inl rfl) (pe_call GT hr (by rfl) gT kT bT .nil pass0 (pa_cons (pv 0) (pa_cons (pv 6) (pa_cons (pv 7) pa_nil)))))
          (pss_one (ps_if (PW.pt (pw_and (pt_cmp (pc_gt (pv 8) (pv 7))) (pw_and1 (pt_cmp (pc_din hu (pv 8) (pv 2))))))
            (pss_one (ps_expr (pe_bm PySem.F.plainAttrs_list PySem.F.slot_list_append PySem.F.type_list_append mt_append (pv 4) (pa_cons (pe_tup (pa_cons (pv 6) (pa_cons (pv 7) (pa_cons (pv 8) pa_nil)))) pa_nil)))) pss_nil))))))
      (pss_one (ps_ret (pv 4)))))), ?_⟩
    -- members = {}
    intro m hm
    have s1 : Same H (upd H m (.dK [])) := same_upd hm
    refine ⟨_, rfl, a, rfl, ⟨_, s1.seq hS⟩, for_list (K := K) (a := a) (xs := nV l) (fun i σ H' => ∃ (v : Option V) (kvs : List (Key × V)), σ = [some (.int n), some (.ref a), some (.ref m), v, none, none, none, none, none] ∧ Same H H' ∧ H' m = some (.dK kvs) ∧ kvs.length ≤ i ∧ Mem kvs (l.take i))
      ⟨none, [], rfl, s1, upd_same, Nat.le_refl _, fun k => rfl⟩ (fun i σ H' _ ⟨_, _, _, s5, _⟩ => s5.seq hS) ?_ ?_⟩
    · rintro i y σ H' hi ⟨v, kvs, rfl, s5, em, el, hM⟩
      have hil : i < l.length := by
        have := (List.getElem?_eq_some_iff.mp hi).1
        rwa [nV_len] at this
      obtain ⟨z, hz, rfl⟩ := nV_get hi
      refine ⟨_, rfl, _, rfl, m, _, rfl, DPut.k (k := Sum.inl (z : Int)) em (big_line (by omega)), some (.int z), _, rfl, fun b o e => ?_, upd_same, Nat.le_trans (length_putK _ _ _) (Nat.succ_le_succ el), ?_⟩
      · rw [upd_ne (ne_of_none e hm)]
        exact s5 b o e
      · rw [Kz.take_more hz]
        exact hM.put z _
    rintro σ H1 ⟨v3, kvs, rfl, s5, em, el, hM⟩
    rw [nV_len, List.take_length] at hM
    -- lines = []
    refine ⟨Nat.zero_le _, fun o ho => ?_⟩
    have s6 : Same H1 (upd H1 o (.lst [])) := same_upd ho
    have hHo : H o = none := s5.free ho
    refine ⟨_, rfl, a, nV l, rfl, s6.seq (s5.seq hS), ?_⟩
    refine for_it (walk_enum (K := K) (a := a) (xs := nV l)) (fun i σ H' => ∃ (v5 v6 v7 v8 : Option V) (ts : List Addr), σ = [some (.int n), some (.ref a), some (.ref m), v3, some (.ref o), v5, v6, v7, v8] ∧ Same H H' ∧ H' m = some (.dK kvs) ∧ H' o = some (.lst (ts.map V.ref)) ∧ TriAt H' ts (Kz.lns n l i))
      ⟨none, none, none, none, [], rfl, s5.trans s6, s6 _ _ em, upd_same, rfl⟩ (fun i σ H' _ ⟨_, _, _, _, _, _, s7, _⟩ => s7.seq hS) ?_ ?_
    · rintro i x σ H2 H3 hi ⟨v5, v6, v7, v8, ts, rfl, s7, em2, eo2, hT2⟩ ⟨T, x1, x2, rfl, nT, rfl, f1, f2⟩
      rw [nV_len] at hi
      obtain ⟨z, hz, rfl⟩ := nV_get f2
      cases Option.some.inj f1
      have s8 : Same H2 (upd H2 T (.tup [.int (i : Nat), .int (z : Int)])) := same_upd nT
      have eo3 := s8 _ _ eo2
      have em3 := s8 _ _ em2
      refine ⟨T, _, rfl, .inl (.inl upd_same), rfl, _, _, rfl, _, [], rfl, rfl, ?_⟩
      -- s[i + 1:]
      refine ⟨_, rfl, _, rfl, (i : Int), 1, rfl, rfl, (i : Int) + 1, rfl, a, nV l, rfl, s8.seq (s7.seq hS), fun c nc => ?_⟩
      rw [drop_cut, nV_drop]
      have s9 := same_upd (o := .lst (nV (l.drop (i + 1)))) nc
      have nco : o ≠ c := ne_of_none eo3 nc
      have hT3 : TriAt (upd (upd H2 T (.tup [.int (i : Nat), .int (z : Int)])) c (.lst (nV (l.drop (i + 1))))) ts (Kz.lns n l i) := (hT2.lay nT).lay nc
      refine ⟨c, rfl, ⟨_, .of upd_same⟩, for_list (K := K) (a := c) (xs := nV (l.drop (i + 1))) (fun j σ H' => ∃ (v7 v8 : Option V) (ts : List Addr), σ = [some (.int n), some (.ref a), some (.ref m), v3, some (.ref o), some (.int (i : Nat)), some (.int (z : Int)), v7, v8] ∧ Same H H' ∧ H' m = some (.dK kvs) ∧ H' c = some (.lst (nV (l.drop (i + 1)))) ∧ H' o = some (.lst (ts.map V.ref)) ∧ TriAt H' ts (Kz.lnsj n l i z j))
        ⟨v7, v8, ts, rfl, (s7.trans s8).trans s9, s9 _ _ em3, upd_same, s9 _ _ eo3, ?_⟩ (fun j σ H' _ ⟨_, _, _, _, _, _, ec, _⟩ => .of ec) ?_ ?_⟩
      · unfold Kz.lnsj
        rw [List.take_zero, List.filterMap_nil, List.append_nil]
        exact hT3
      · rintro j y σ H4 hj ⟨v7, v8, ts, rfl, s10, em4, ec4, eo4, hT4⟩
        obtain ⟨y, hy, rfl⟩ := nV_get hj
        have more := Kz.lnsj_more (n := n) (x := z) hy
        refine ⟨_, rfl, _, rfl, _, rfl, n, z, y, rfl, hn, ?_⟩
        refine ⟨_, rfl, _, rfl, ((Kzt3.third n z y : Nat) : Int), (y : Int), rfl, rfl, _, rfl, ?_⟩
        by_cases c1 : y < Kzt3.third n z y
        · refine if_t (decide_eq_true (Int.ofNat_lt.mpr c1)) ?_
          refine ⟨_, rfl, _, rfl, m, _, rfl, DGet.k (k := Sum.inl ((Kzt3.third n z y : Nat) : Int)) em4, _, rfl, ?_⟩
          rw [hM (Kzt3.third n z y)]
          by_cases c2 : l.contains (Kzt3.third n z y) = true
          · refine if_t c2 ?_
            rw [show Kz.tri n l z y = some (z, y, Kzt3.third n z y) from if_pos ⟨c1, c2⟩] at more
            refine ⟨_, rfl, .inl ⟨rfl, _, SqL.of eo4⟩, _, rfl, _, rfl, _, rfl, (by show 3 ≤ sizeLine; decide), fun t nt => ?_⟩
            have s11 := same_upd (o := .tup [.int (z : Int), .int (y : Int), .int ((Kzt3.third n z y : Nat) : Int)]) nt
            refine ⟨o, _, _, rfl, rfl, s11 _ _ eo4, ?_, ?_⟩
            · rw [List.length_map, hT4.len]
              have b1 := Kz.lnsj_len (n := n) (s := l) (i := i) (x := z) (j := j)
              have b2 : i * l.length ≤ 100 * 100 := Nat.mul_le_mul (by omega) hl
              exact big_line (by omega)
            · refine ⟨some (.int y), _, ts ++ [t], rfl, fun b u e => ?_, ?_, ?_, ?_, ?_⟩
              · rw [upd_ne (ne_of_none e hHo)]
                exact s11 _ _ (s10 b u e)
              · rw [upd_ne (ne_of (s11 _ _ em4) (s11 _ _ eo4) (by intro z; cases z))]
                exact s11 _ _ em4
              · rw [upd_ne nco.symm]
                exact s11 _ _ ec4
              · rw [upd_same, List.map_append]
                rfl
              · rw [more]
                exact ((hT4.lay nt).snoc (x := (z, y, Kzt3.third n z y)) upd_same).put (s11 _ _ eo4)
          · refine if_f (by simpa using c2) ?_
            rw [show Kz.tri n l z y = none from if_neg fun c => c2 c.2] at more
            refine ⟨some (.int y), _, ts, rfl, s10, em4, ec4, eo4, ?_⟩
            rw [more]
            exact (List.append_nil _).symm ▸ hT4
        · refine if_f (decide_eq_false fun c => c1 (Int.ofNat_lt.mp c)) ?_
          rw [show Kz.tri n l z y = none from if_neg fun c => c1 c.1] at more
          refine if_f rfl ?_
          refine ⟨some (.int y), _, ts, rfl, s10, em4, ec4, eo4, ?_⟩
          rw [more]
          exact (List.append_nil _).symm ▸ hT4
      · rintro σ H4 ⟨v7, v8, ts, rfl, s10, em4, ec4, eo4, hT4⟩
        rw [nV_len, Kz.lnsj_all hp hz] at hT4
        exact ⟨_, _, v7, v8, ts, rfl, s10, em4, eo4, hT4⟩
    · rintro σ H2 ⟨v5, v6, v7, v8, ts, rfl, s7, em2, eo2, hT2⟩
      rw [nV_len, Kz.lns_all] at hT2
      exact ⟨_, rfl, q H2 o ts s7 eo2 hT2⟩
/-! ### has_line -/
def spLine (K : PySem.W.Frag) : Sp := fun vs H Q _ => ∃ (n : Nat) (a : Addr) (l : List Nat), vs = [.int n, .ref a] ∧ n ≤ 4 ∧ SqL K H a (nV l) ∧ l.length ≤ 100 ∧ l.Pairwise (· < ·) ∧ ∀ H' : Hp, Same H H' → Q (.bl (!Kzt3.free n l)) H'
theorem scLine : FnScope ["n", "s"] ["n", "s"] (defScope sLine) := ⟨rfl, rfl, rfl, by decide +kernel, rfl, by decide +kernel, by decide +kernel⟩
theorem free_len (n : Nat) (l : List Nat) : (!Kzt3.free n l) = decide ((0 : Int) < ((Kzt3.threes n l).length : Nat)) := by
  unfold Kzt3.free
  cases Kzt3.threes n l with
  | nil => rfl
  | cons x r =>
    rw [decide_eq_true (by rw [List.length_cons]; omega)]
    rfl
theorem ok_line {f fL : Addr} {fd fdL : FuncData} {k : Nat} (F : Fun K "has_line" "has_line" sLine f fd) (GL : FnOk P w K mg base CX0 (k + 2) fL fdL ["n", "s"] (spLines K)) (gL : mg "lines_of" = some (.ref fL)) (kL : PySem.W.keepIn K (.ref fL) = true) (bL : Binds K fdL ["n", "s"] []) (ml : mg "len" = none) :
    FnOk P w K mg base CX0 (k + 3) f fd ["n", "s"] (spLine K) := by
  refine F.ok scLine (fun vs H Q E h => ?_) (fun cdv A outer s H vs Q E hr h => ?_)
  · obtain ⟨n, a, l, rfl, _⟩ := h
    rfl
  · obtain ⟨n, a, l, rfl, hn, hS, hl, hp, q⟩ := h
    refine ⟨_, pss_one (ps_ret (pe_cmp (pc_gt (pe_callB call_len_seq (by rfl) ml PySem.boot_len (pa_cons (pe_call GL hr (by rfl) gL kL bL .nil pass0 (pa_cons (pv 0) (pa_cons (pv 1) pa_nil))) pa_nil)) pe_int))), ?_⟩
    refine ⟨_, rfl, _, rfl, n, a, l, rfl, hn, hS, hl, hp, fun H1 o ts s1 eo hT => ?_⟩
    refine ⟨o, _, rfl, .inl (SqL.of eo), _, 0, rfl, rfl, ?_⟩
    rw [List.length_map, hT.len]
    have q1 := q H1 s1
    rw [free_len] at q1
    exact q1
/-! ### may_be_added -/
theorem cnt_lo (n : Nat) : -(2 ^ 62) ≤ ((3 ^ n : Nat) : Int) := Int.le_trans (by decide) (Int.natCast_nonneg (3 ^ n))
theorem cnt_hi {n : Nat} (h : n ≤ 4) : ((3 ^ n : Nat) : Int) < 2 ^ 62 := Int.lt_of_le_of_lt (Int.ofNat_le.mpr (Kz.pow_le81 h)) (by decide)
theorem inV_nV (x : Nat) : ∀ l : List Nat, inV (.int (x : Int)) (nV l) = l.contains x
  | [] => rfl
  | y :: l => by
    have ih := inV_nV x l
    unfold inV nV at ih ⊢
    rw [List.map_cons, List.any_cons, ih, List.contains_cons]
    congr 1
    show ((y : Int) == (x : Int)) = (x == y)
    rw [Bool.eq_iff_iff, beq_iff_eq, beq_iff_eq]
    omega
theorem nV_flat (l : List Nat) : (nV l).all flatV = true := by
  unfold nV
  rw [List.all_map, List.all_eq_true]
  intro x _
  rfl
def spAdd (K : PySem.W.Frag) : Sp := fun vs H Q _ => ∃ (n : Nat) (a : Addr) (l : List Nat) (x : Nat), vs = [.int n, .ref a, .int x] ∧ n ≤ 4 ∧ SqL K H a (nV l) ∧ (∀ y ∈ l, y < 3 ^ n) ∧ x < 3 ^ n ∧ Q (.bl (Kzt3.may n l x)) H
theorem scAdd : FnScope ["n", "s", "point", "member"] ["n", "s", "point"] (defScope sAdd) := ⟨rfl, rfl, rfl, by decide +kernel, rfl, by decide +kernel, by decide +kernel⟩
theorem ok_add {f fT : Addr} {fd fdT : FuncData} {k : Nat} (F : Fun K "may_be_added" "may_be_added" sAdd f fd) (GT : FnOk P w K mg base CX0 (k + 1) fT fdT ["n", "x", "y"] spThird) (gT : mg "third_point" = some (.ref fT)) (kT : PySem.W.keepIn K (.ref fT) = true) (bT : Binds K fdT ["n", "x", "y"] []) :
    FnOk P w K mg base CX0 (k + 2) f fd ["n", "s", "point"] (spAdd K) := by
  refine F.ok scAdd (fun vs H Q E h => ?_) (fun cdv A outer s H vs Q E hr h => ?_)
  · obtain ⟨n, a, l, x, rfl, _⟩ := h
    rfl
  · obtain ⟨n, a, l, x, rfl, hn, hS, hl, hx, q⟩ := h
    refine ⟨_, pss_cons (ps_if (pt_cmpR op_in_seq (pv 2) (pv 1) rfl) (pss_one (ps_ret pe_bl)) pss_nil)
      (pss_cons (ps_for PassesOwn.never rfl (pi_list (pv 1)) (pg_name (i := 3) scAdd.nd rfl (.inl rfl))
        (pss_one (ps_if (pt_cmpR op_in_seq (pe_call GT hr (by rfl) gT kT bT .nil pass0 (pa_cons (pv 0) (pa_cons (pv 2) (pa_cons (pv 3) pa_nil)))) (pv 1) rfl) (pss_one (ps_ret pe_bl)) pss_nil)))
      (pss_one (ps_ret pe_bl))), ?_⟩
    have hi := Kz.may_iff hl hx
    refine ⟨_, rfl, _, rfl, a, _, rfl, .inl hS, rfl, nV_flat l, _, rfl, ?_⟩
    show if inV (.int (x : Int)) (nV l) = true then _ else _
    rw [inV_nV]
    by_cases c1 : x ∈ l
    · refine if_t (List.contains_iff_mem.mpr c1) ?_
      have e : Kzt3.may n l x = false := Bool.eq_false_iff.mpr fun z => (hi.mp z).1 c1
      rw [e] at q
      exact q
    · refine if_f (Bool.eq_false_iff.mpr fun z => c1 (List.contains_iff_mem.mp z)) ?_
      refine ⟨_, rfl, a, rfl, ⟨_, hS⟩, for_list (K := K) (a := a) (xs := nV l) (fun i σ H' => ∃ v : Option V, σ = [some (.int n), some (.ref a), some (.int x), v] ∧ H' = H ∧ ∀ y ∈ l.take i, Kzt3.third n x y ∉ l)
        ⟨none, rfl, rfl, fun y hy => by cases hy⟩ (fun i σ H' _ ⟨_, _, e, _⟩ => e ▸ hS) ?_ ?_⟩
      · rintro i y σ H' hi' ⟨v, rfl, rfl, ec⟩
        obtain ⟨z, hz, rfl⟩ := nV_get hi'
        refine ⟨_, rfl, _, rfl, _, rfl, n, x, z, rfl, hn, ?_⟩
        refine ⟨_, rfl, a, _, rfl, .inl hS, rfl, nV_flat l, _, rfl, ?_⟩
        show if inV (.int ((Kzt3.third n x z : Nat) : Int)) (nV l) = true then _ else _
        rw [inV_nV]
        by_cases c2 : Kzt3.third n x z ∈ l
        · refine if_t (List.contains_iff_mem.mpr c2) ?_
          have e : Kzt3.may n l x = false := Bool.eq_false_iff.mpr fun y => (hi.mp y).2 z (List.mem_of_getElem? hz) c2
          rw [e] at q
          exact q
        · refine if_f (Bool.eq_false_iff.mpr fun y => c2 (List.contains_iff_mem.mp y)) ?_
          refine ⟨some (.int z), rfl, rfl, fun y hy => ?_⟩
          rw [Kz.take_more hz] at hy
          rcases List.mem_append.mp hy with h | h
          · exact ec y h
          · rw [List.mem_singleton.mp h]
            exact c2
      · rintro σ H' ⟨v, rfl, rfl, ec⟩
        rw [nV_len, List.take_length] at ec
        have e : Kzt3.may n l x = true := hi.mpr ⟨c1, ec⟩
        rw [e] at q
        exact q
/-! ### fill -/
theorem put_perm {x : Nat} : ∀ {l : List Nat}, x ∉ l → (Kzt3.put x l).Perm (x :: l)
  | [], _ => .refl _
  | y :: l, h => by
    unfold Kzt3.put
    by_cases c1 : x < y
    · rw [if_pos c1]
    · rw [if_neg c1, if_neg fun e => h (by rw [e]; exact List.mem_cons_self)]
      exact ((put_perm fun z => h (List.mem_cons_of_mem _ z)).cons y).trans (.swap ..)
theorem sort_is {ns : List Int} {m f : List Nat} (h1 : ns.Perm (Kz.up m)) (h2 : ns.Pairwise (· ≤ ·)) (h3 : m.Perm f) (h4 : f.Pairwise (· < ·)) : ns = Kz.up f := by
  have e : ns.Perm (Kz.up f) := h1.trans (h3.map _)
  refine e.eq_of_pairwise (le := (· ≤ ·)) (fun a b _ _ x y => Int.le_antisymm x y) h2 ?_
  unfold Kz.up
  rw [List.pairwise_map]
  exact h4.imp fun h => by omega
theorem nV_snoc (m : List Nat) (i : Nat) : nV m ++ [.int (i : Int)] = nV (m ++ [i]) := by
  unfold nV
  rw [List.map_append]
  rfl
def spFill (K : PySem.W.Frag) : Sp := fun vs H Q _ => ∃ (n : Nat) (a : Addr) (l : List Nat), vs = [.int n, .ref a] ∧ n ≤ 4 ∧ SqL K H a (nV l) ∧ l.length ≤ 100 ∧ l.Pairwise (· < ·) ∧ (∀ y ∈ l, y < 3 ^ n) ∧ ∀ (H' : Hp) (p : Addr), Same H H' → H' p = some (.lst (nV (Kzt3.filled n l))) → Q (.ref p) H'
theorem scFill : FnScope ["n", "s", "full", "point"] ["n", "s"] (defScope sFill) := ⟨rfl, rfl, rfl, by decide +kernel, rfl, by decide +kernel, by decide +kernel⟩
theorem ok_fill {f fC fA : Addr} {fd fdC fdA : FuncData} {k : Nat} (F : Fun K "fill" "fill" sFill f fd) (GC : FnOk P w K mg base CX0 (k + 2) fC fdC ["n"] spCount) (gC : mg "point_count" = some (.ref fC)) (kC : PySem.W.keepIn K (.ref fC) = true) (bC : Binds K fdC ["n"] [])
    (GA : FnOk P w K mg base CX0 (k + 2) fA fdA ["n", "s", "point"] (spAdd K)) (gA : mg "may_be_added" = some (.ref fA)) (kA : PySem.W.keepIn K (.ref fA) = true) (bA : Binds K fdA ["n", "s", "point"] []) (mr : mg "range" = none) (mL : mg "list" = none) (mS : mg "sorted" = none) :
    FnOk P w K mg base CX0 (k + 3) f fd ["n", "s"] (spFill K) := by
  refine F.ok scFill (fun vs H Q E h => ?_) (fun cdv A outer s H vs Q E hr h => ?_)
  · obtain ⟨n, a, l, rfl, _⟩ := h
    rfl
  · obtain ⟨n, a, l, rfl, hn, hS, h100, hp, hl, q⟩ := h
    refine ⟨_, pss_cons (ps_set (i := 2) scFill.nd rfl (.inl rfl) (pe_callTy call_list_of (by rfl) mL (by decide +kernel) (pa_cons (pv 1) pa_nil)))
      (pss_cons (ps_for PassesOwn.never rfl (pi_range1 (by rfl) mr (pa_cons (pe_call GC hr (by rfl) gC kC bC .nil pass0 (pa_cons (pv 0) pa_nil)) pa_nil)) (pg_name (i := 3) scFill.nd rfl (.inl rfl))
        (pss_one (ps_if (pt_val (pe_call GA hr (by rfl) gA kA bA .nil pass0 (pa_cons (pv 0) (pa_cons (pv 2) (pa_cons (pv 3) pa_nil)))))
          (pss_one (ps_expr (pe_bm PySem.F.plainAttrs_list PySem.F.slot_list_append PySem.F.type_list_append mt_append (pv 2) (pa_cons (pv 3) pa_nil)))) pss_nil)))
      (pss_one (ps_ret (pe_callB cr_sortedI (by rfl) mS (by decide +kernel) (pa_cons (pv 2) pa_nil))))), ?_⟩
    have h81 := Kz.pow_le81 hn
    refine ⟨_, rfl, a, _, rfl, .inl hS, fun o ho => ?_⟩
    have s1 : Same H (upd H o (.lst (nV l))) := same_upd ho
    refine ⟨_, rfl, n, rfl, hn, ((3 ^ n : Nat) : Int), rfl, cnt_lo n, cnt_hi hn, ?_⟩
    refine for_range (lo := 0) (n := 3 ^ n) (fun i σ H' => ∃ (v : Option V) (m : List Nat), σ = [some (.int n), some (.ref a), some (.ref o), v] ∧ Same H H' ∧ H' o = some (.lst (nV m)) ∧ m.Perm (Kz.fil n l i) ∧ m.length ≤ l.length + i) ⟨none, l, rfl, s1, upd_same, .refl _, Nat.le_refl _⟩ ?_ ?_
    · rintro i σ H' hi ⟨v, m, rfl, s5, eo, hm, hml⟩
      have more := Kz.fil_more n l i
      have hc : Kzt3.may n m i = Kzt3.may n (Kz.fil n l i) i := Kz.may_congr (fun z => hm.mem_iff) i
      have hlt := Kz.fil_lt hl (Nat.le_of_lt hi)
      rw [← hc] at more
      refine ⟨_, rfl, _, rfl, _, rfl, n, o, m, i, (by rw [Int.zero_add]; rfl), hn, SqL.of eo, fun y hy => hlt y (hm.mem_iff.mp hy), hi, _, rfl, ?_⟩
      cases c : Kzt3.may n m i with
      | true =>
        rw [if_pos c] at more
        refine if_t rfl ?_
        refine ⟨_, rfl, .inl ⟨rfl, _, SqL.of eo⟩, _, rfl, o, _, _, rfl, rfl, eo, ?_, ?_⟩
        · rw [nV_len]
          exact big_line (by omega)
        · refine ⟨some (.int (0 + i)), m ++ [i], rfl, fun b u e => ?_, ?_, ?_, ?_⟩
          · rw [upd_ne (ne_of_none e ho)]
            exact s5 b u e
          · rw [upd_same, ← nV_snoc, Int.zero_add]
          · rw [more]
            have ni : i ∉ Kz.fil n l i := fun z => ((Kz.may_iff hlt hi).mp (hc ▸ c)).1 z
            exact (List.perm_append_singleton i m).trans ((hm.cons i).trans (put_perm ni).symm)
          · rw [List.length_append, List.length_singleton]
            omega
      | false =>
        rw [if_neg (by rw [c]; decide)] at more
        refine if_f rfl ?_
        exact ⟨some (.int (0 + i)), m, rfl, s5, eo, more ▸ hm, by omega⟩
    · rintro σ H' ⟨v, m, rfl, s5, eo, hm, hml⟩
      rw [← nV_ints] at eo
      refine ⟨_, rfl, o, Kz.up m, rfl, SqL.of eo, fun ns p h1 h2 h3 => q _ p (s5.trans (same_upd h3)) ?_⟩
      rw [upd_same, sort_is h1 h2 hm (Kz.fil_pair hp _), Kz.fil_all, nV_ints]
/-! ### answers over a set -/
theorem nats_up (l : List Nat) : Kzt3Neutral.natsOf (Kz.up l) = l := by
  unfold Kzt3Neutral.natsOf Kz.up
  rw [List.map_map]
  exact Eq.trans (List.map_congr_left fun _ _ => rfl) (List.map_id l)
theorem told_up (l : List Nat) : (Kzt3.told (Kzt3.ints l)).value :: (Kzt3.told (Kzt3.ints l)).nums = (l.length : Int) :: Kz.up l := by
  show (((Kzt3.ints l).length : Nat) : Int) :: Kzt3.ints l = _
  unfold Kzt3.ints Kz.up
  rw [List.length_map]
/-! ### filled -/
theorem ans_filled (n : Nat) (l : List Nat) : PyKzt3.filled n (Kz.up l) = (Kzt3.answer (.filled n l)).value :: (Kzt3.answer (.filled n l)).nums := by
  show (Kzt3.answer (.filled n (Kzt3Neutral.natsOf (Kz.up l)))).value :: _ = _
  rw [nats_up]
  rfl
theorem filled_22 {n : Nat} {l : List Nat} (h : Kzt3.okN n = false ∨ Kzt3.okSet n l = false) : PyKzt3.filled n (Kz.up l) = [-22] := by
  rw [ans_filled]
  unfold Kzt3.answer Kzt3.withSet
  dsimp only
  rw [if_pos h]
  rfl
theorem filled_33 {n : Nat} {l : List Nat} (h1 : Kzt3.okN n = true) (h2 : Kzt3.okSet n l = true) (h3 : Kzt3.free n l = false) : PyKzt3.filled n (Kz.up l) = [-33] := by
  rw [ans_filled]
  unfold Kzt3.answer Kzt3.withSet
  dsimp only
  rw [if_neg (by rw [h1, h2]; decide), if_pos h3]
  rfl
theorem filled_ok {n : Nat} {l : List Nat} (h1 : Kzt3.okN n = true) (h2 : Kzt3.okSet n l = true) (h3 : Kzt3.free n l = true) : PyKzt3.filled n (Kz.up l) = ((Kzt3.filled n l).length : Int) :: Kz.up (Kzt3.filled n l) := by
  rw [ans_filled]
  unfold Kzt3.answer Kzt3.withSet
  dsimp only
  rw [if_neg (by rw [h1, h2]; decide), if_neg (by rw [h3]; decide), told_up]
def spMain (K : PySem.W.Frag) : Sp := fun vs H Q _ => ∃ (n : Nat) (a : Addr) (l : List Nat), vs = [.int n, .ref a] ∧ SqL K H a (nV l) ∧ l.length ≤ 100 ∧ ∀ (H' : Hp) (p : Addr), H' p = some (.lst ((PyKzt3.filled n (Kz.up l)).map V.int)) → Q (.ref p) H'
theorem scMain : FnScope ["n", "s", "full"] ["n", "s"] (defScope sMain) := ⟨rfl, rfl, rfl, by decide +kernel, rfl, by decide +kernel, by decide +kernel⟩
theorem ok_main {f fH fS fL fF : Addr} {fd fdH fdS fdL fdF : FuncData} {tU tI : Tok} (F : Fun K "filled" "filled" sMain f fd)
    (GH : FnOk P w K mg base CX0 3 fH fdH ["n"] spHas) (gH : mg "has_points" = some (.ref fH)) (kH : PySem.W.keepIn K (.ref fH) = true) (bH : Binds K fdH ["n"] [])
    (GS : FnOk P w K mg base CX0 3 fS fdS ["n", "s"] (spSet K)) (gS : mg "is_set" = some (.ref fS)) (kS : PySem.W.keepIn K (.ref fS) = true) (bS : Binds K fdS ["n", "s"] [])
    (GL : FnOk P w K mg base CX0 3 fL fdL ["n", "s"] (spLine K)) (gL : mg "has_line" = some (.ref fL)) (kL : PySem.W.keepIn K (.ref fL) = true) (bL : Binds K fdL ["n", "s"] [])
    (GF : FnOk P w K mg base CX0 3 fF fdF ["n", "s"] (spFill K)) (gF : mg "fill" = some (.ref fF)) (kF : PySem.W.keepIn K (.ref fF) = true) (bF : Binds K fdF ["n", "s"] [])
    (mU : mg "UNFIT" = some (.int (-22) tU)) (mI : mg "IN_LINE" = some (.int (-33) tI)) (ml : mg "len" = none) :
    FnOk P w K mg base CX0 4 f fd ["n", "s"] (spMain K) := by
  refine F.ok scMain (fun vs H Q E h => ?_) (fun cdv A outer s H vs Q E hr h => ?_)
  · obtain ⟨n, a, l, rfl, _⟩ := h
    rfl
  · obtain ⟨n, a, l, rfl, hS, hl, q⟩ := h
    refine ⟨_, pss_cons (ps_if (PW.pt (pw_or (pt_not (pt_val (pe_call GH hr (by rfl) gH kH bH .nil pass0 (pa_cons (pv 0) pa_nil)))) (pw_or1 (pt_not (pt_val (pe_call GS hr (by rfl) gS kS bS .nil pass0 (pa_cons (pv 0) (pa_cons (pv 1) pa_nil))))))))
        (pss_one (ps_ret (pe_lst (pa_cons (pe_glob (v := .int (-22)) (by rfl) mU ⟨_, rfl⟩) pa_nil)))) pss_nil)
      (pss_cons (ps_if (pt_val (pe_call GL hr (by rfl) gL kL bL .nil pass0 (pa_cons (pv 0) (pa_cons (pv 1) pa_nil)))) (pss_one (ps_ret (pe_lst (pa_cons (pe_glob (v := .int (-33)) (by rfl) mI ⟨_, rfl⟩) pa_nil)))) pss_nil)
      (pss_cons (ps_set (i := 2) scMain.nd rfl (.inl rfl) (pe_call GF hr (by rfl) gF kF bF .nil pass0 (pa_cons (pv 0) (pa_cons (pv 1) pa_nil))))
      (pss_one (ps_ret (pe_op op_cat (pe_lst (pa_cons (pe_callB call_len_seq (by rfl) ml PySem.boot_len (pa_cons (pv 2) pa_nil)) pa_nil)) (pv 2)))))), ?_⟩
    have one : 1 ≤ sizeLine := by decide
    refine ⟨_, rfl, n, rfl, _, rfl, ?_⟩
    cases hN : Kzt3.okN n with
    | false =>
      refine iteT (iteT ⟨one, fun p hp => q _ p ?_⟩)
      rw [filled_22 (.inl hN)]
      exact upd_same
    | true =>
      refine iteF ?_
      have hn := okN_le hN
      refine ⟨_, rfl, _, rfl, n, a, l, rfl, hn, hS, _, rfl, ?_⟩
      cases hK : Kzt3.okSet n l with
      | false =>
        refine iteT ⟨one, fun p hp => q _ p ?_⟩
        rw [filled_22 (.inr hK)]
        exact upd_same
      | true =>
        refine iteF ?_
        refine ⟨_, rfl, _, rfl, n, a, l, rfl, hn, hS, hl, Kz.ok_pair hK, fun H1 s1 => ⟨_, rfl, ?_⟩⟩
        cases hR : Kzt3.free n l with
        | false =>
          refine iteT ⟨one, fun p hp => q _ p ?_⟩
          rw [filled_33 hN hK hR]
          exact upd_same
        | true =>
          refine iteF ?_
          refine ⟨_, rfl, _, rfl, n, a, l, rfl, hn, s1.seq hS, hl, Kz.ok_pair hK, Kz.ok_lt hK, fun H2 o s2 eo => ?_⟩
          refine ⟨_, rfl, o, _, rfl, .inl (SqL.of eo), one, fun r nr => ?_⟩
          have s3 := same_upd (o := .lst [.int ((nV (Kzt3.filled n l)).length : Nat)]) nr
          have hlen : (Kzt3.filled n l).length ≤ 81 := Nat.le_trans (Kz.rise_len (Kz.fil_pair (Kz.ok_pair hK) (3 ^ n)) (Kz.fil_lt (Kz.ok_lt hK) (Nat.le_refl _))) (Kz.pow_le81 hn)
          refine ⟨_, rfl, r, o, _, _, rfl, rfl, upd_same, s3 _ _ eo, ?_, fun p hp => q _ p ?_⟩
          · rw [nV_len]
            show 1 + _ ≤ sizeLine
            exact Nat.le_of_lt (big_line (by omega))
          · rw [upd_same, filled_ok hN hK hR, List.map_cons, nV_ints, nV_len]
            rfl
end
/-! ### what the top has written -/
theorem all_mk {P : Program} {w : World} {K : PySem.W.Frag} {h : Heap} {mg : Str → Option Value} {fa f0 f1 f2 f3 f4 f5 f6 f7 f8 : Addr} (X : K.In h) (G : h.Ns mainGlobals mg) (hfa : mg "filled" = some (.ref fa))
    {od0 an0 od1 an1 od2 an2 od3 an3 od4 an4 od5 an5 od6 an6 od7 an7 od8 an8 : Option Addr} {sl0 sl1 sl2 sl3 sl4 sl5 sl6 sl7 sl8 : Array (Option Value)} {oc0 kV0 dc0 pm0 cd0 ct0 oc1 kV1 dc1 pm1 cd1 ct1 oc2 kV2 dc2 pm2 cd2 ct2 oc3 kV3 dc3 pm3 cd3 ct3 oc4 kV4 dc4 pm4 cd4 ct4 oc5 kV5 dc5 pm5 cd5 ct5 oc6 kV6 dc6 pm6 cd6 ct6 oc7 kV7 dc7 pm7 cd7 ct7 oc8 kV8 dc8 pm8 cd8 ct8 : Value}
    {t0 t1 t2 : Tok}
    (a0 : PySem.W.nsIn K mainGlobals "has_points" = some (some (.ref f0))) (l0 : K.lookup f0 = some ⟨oc0, od0, .func (PySem.W.fnOf "has_points" "has_points" (defArgs sHas) (defBody sHas) (defScope sHas) .none kV0 dc0 pm0 an0 cd0 ct0), sl0⟩) (c0 : PySem.W.codeIn K cd0 "has_points" = true) (k0 : PySem.W.keepIn K (.ref f0) = true)
    (a1 : PySem.W.nsIn K mainGlobals "point_count" = some (some (.ref f1))) (l1 : K.lookup f1 = some ⟨oc1, od1, .func (PySem.W.fnOf "point_count" "point_count" (defArgs sCount) (defBody sCount) (defScope sCount) .none kV1 dc1 pm1 an1 cd1 ct1), sl1⟩) (c1 : PySem.W.codeIn K cd1 "point_count" = true) (k1 : PySem.W.keepIn K (.ref f1) = true)
    (a2 : PySem.W.nsIn K mainGlobals "is_set" = some (some (.ref f2))) (l2 : K.lookup f2 = some ⟨oc2, od2, .func (PySem.W.fnOf "is_set" "is_set" (defArgs sSet) (defBody sSet) (defScope sSet) .none kV2 dc2 pm2 an2 cd2 ct2), sl2⟩) (c2 : PySem.W.codeIn K cd2 "is_set" = true) (k2 : PySem.W.keepIn K (.ref f2) = true)
    (a3 : PySem.W.nsIn K mainGlobals "third_point" = some (some (.ref f3))) (l3 : K.lookup f3 = some ⟨oc3, od3, .func (PySem.W.fnOf "third_point" "third_point" (defArgs sThird) (defBody sThird) (defScope sThird) .none kV3 dc3 pm3 an3 cd3 ct3), sl3⟩) (c3 : PySem.W.codeIn K cd3 "third_point" = true) (k3 : PySem.W.keepIn K (.ref f3) = true)
    (a4 : PySem.W.nsIn K mainGlobals "lines_of" = some (some (.ref f4))) (l4 : K.lookup f4 = some ⟨oc4, od4, .func (PySem.W.fnOf "lines_of" "lines_of" (defArgs sLines) (defBody sLines) (defScope sLines) .none kV4 dc4 pm4 an4 cd4 ct4), sl4⟩) (c4 : PySem.W.codeIn K cd4 "lines_of" = true) (k4 : PySem.W.keepIn K (.ref f4) = true)
    (a5 : PySem.W.nsIn K mainGlobals "has_line" = some (some (.ref f5))) (l5 : K.lookup f5 = some ⟨oc5, od5, .func (PySem.W.fnOf "has_line" "has_line" (defArgs sLine) (defBody sLine) (defScope sLine) .none kV5 dc5 pm5 an5 cd5 ct5), sl5⟩) (c5 : PySem.W.codeIn K cd5 "has_line" = true) (k5 : PySem.W.keepIn K (.ref f5) = true)
    (a6 : PySem.W.nsIn K mainGlobals "may_be_added" = some (some (.ref f6))) (l6 : K.lookup f6 = some ⟨oc6, od6, .func (PySem.W.fnOf "may_be_added" "may_be_added" (defArgs sAdd) (defBody sAdd) (defScope sAdd) .none kV6 dc6 pm6 an6 cd6 ct6), sl6⟩) (c6 : PySem.W.codeIn K cd6 "may_be_added" = true) (k6 : PySem.W.keepIn K (.ref f6) = true)
    (a7 : PySem.W.nsIn K mainGlobals "fill" = some (some (.ref f7))) (l7 : K.lookup f7 = some ⟨oc7, od7, .func (PySem.W.fnOf "fill" "fill" (defArgs sFill) (defBody sFill) (defScope sFill) .none kV7 dc7 pm7 an7 cd7 ct7), sl7⟩) (c7 : PySem.W.codeIn K cd7 "fill" = true) (k7 : PySem.W.keepIn K (.ref f7) = true)
    (a8 : PySem.W.nsIn K mainGlobals "filled" = some (some (.ref f8))) (l8 : K.lookup f8 = some ⟨oc8, od8, .func (PySem.W.fnOf "filled" "filled" (defArgs sMain) (defBody sMain) (defScope sMain) .none kV8 dc8 pm8 an8 cd8 ct8), sl8⟩) (c8 : PySem.W.codeIn K cd8 "filled" = true) (k8 : PySem.W.keepIn K (.ref f8) = true)
    (u0 : PySem.W.nsIn K mainGlobals "UNFIT" = some (some (.int (-22) t0)))
    (u1 : PySem.W.nsIn K mainGlobals "IN_LINE" = some (some (.int (-33) t1)))
    (u2 : PySem.W.nsIn K mainGlobals "MOST_NUMBERS" = some (some (.int (4) t2)))
    (z0 : PySem.W.nsIn K mainGlobals "range" = some none)
    (z1 : PySem.W.nsIn K mainGlobals "len" = some none)
    (z2 : PySem.W.nsIn K mainGlobals "enumerate" = some none)
    (z3 : PySem.W.nsIn K mainGlobals "list" = some none)
    (z4 : PySem.W.nsIn K mainGlobals "sorted" = some none) :
    ∃ fd : FuncData, (∀ (s : Shared) (us : List Value), us.length = (["n", "s"] : List Str).length → BindsTo s fd ⟨us, []⟩ ((["n", "s"] : List Str).zip us)) ∧ ∀ base : Heap, K.In base → base.Ns mainGlobals mg → FnOk P w K mg base CX0 4 fa fd ["n", "s"] (spMain K) := by
  have e := hfa.symm.trans (PySem.W.mg_of X G a8)
  cases e
  have FHas := fun_mk (st := sHas) l0 c0 k0
  have bHas := FHas.binds (ps := ["n"]) fun _ _ _ _ _ _ us hl => match us, hl with | [_], _ => rfl
  have gHas := PySem.W.mg_of X G a0
  have kHas := k0
  have FCount := fun_mk (st := sCount) l1 c1 k1
  have bCount := FCount.binds (ps := ["n"]) fun _ _ _ _ _ _ us hl => match us, hl with | [_], _ => rfl
  have gCount := PySem.W.mg_of X G a1
  have kCount := k1
  have FSet := fun_mk (st := sSet) l2 c2 k2
  have bSet := FSet.binds (ps := ["n", "s"]) fun _ _ _ _ _ _ us hl => match us, hl with | [_, _], _ => rfl
  have gSet := PySem.W.mg_of X G a2
  have kSet := k2
  have FThird := fun_mk (st := sThird) l3 c3 k3
  have bThird := FThird.binds (ps := ["n", "x", "y"]) fun _ _ _ _ _ _ us hl => match us, hl with | [_, _, _], _ => rfl
  have gThird := PySem.W.mg_of X G a3
  have kThird := k3
  have FLines := fun_mk (st := sLines) l4 c4 k4
  have bLines := FLines.binds (ps := ["n", "s"]) fun _ _ _ _ _ _ us hl => match us, hl with | [_, _], _ => rfl
  have gLines := PySem.W.mg_of X G a4
  have kLines := k4
  have FLine := fun_mk (st := sLine) l5 c5 k5
  have bLine := FLine.binds (ps := ["n", "s"]) fun _ _ _ _ _ _ us hl => match us, hl with | [_, _], _ => rfl
  have gLine := PySem.W.mg_of X G a5
  have kLine := k5
  have FAdd := fun_mk (st := sAdd) l6 c6 k6
  have bAdd := FAdd.binds (ps := ["n", "s", "point"]) fun _ _ _ _ _ _ us hl => match us, hl with | [_, _, _], _ => rfl
  have gAdd := PySem.W.mg_of X G a6
  have kAdd := k6
  have FFill := fun_mk (st := sFill) l7 c7 k7
  have bFill := FFill.binds (ps := ["n", "s"]) fun _ _ _ _ _ _ us hl => match us, hl with | [_, _], _ => rfl
  have gFill := PySem.W.mg_of X G a7
  have kFill := k7
  have FMain := fun_mk (st := sMain) l8 c8 k8
  have m_UNFIT := PySem.W.mg_of X G u0
  have m_IN_LINE := PySem.W.mg_of X G u1
  have m_MOST_NUMBERS := PySem.W.mg_of X G u2
  have m_range := PySem.W.mg_none_of X G z0
  have m_len := PySem.W.mg_none_of X G z1
  have m_enumerate := PySem.W.mg_none_of X G z2
  have m_list := PySem.W.mg_none_of X G z3
  have m_sorted := PySem.W.mg_none_of X G z4
  refine ⟨PySem.W.fnOf "filled" "filled" (defArgs sMain) (defBody sMain) (defScope sMain) .none kV8 dc8 pm8 an8 cd8 ct8, fun s us hu => match us, hu with | [_, _], _ => .of_eq rfl, fun base _ _ => ?_⟩
  have OT := fun k => ok_third (P := P) (w := w) (base := base) (k := k) FThird m_range
  have OC := fun k => ok_count (P := P) (w := w) (base := base) (k := k) FCount m_range
  have OH := ok_has (P := P) (w := w) (base := base) (k := 2) FHas m_MOST_NUMBERS
  have OS := ok_set (P := P) (w := w) (k := 1) FSet (OC 1) gCount kCount bCount
  have OL := ok_line (P := P) (w := w) (k := 0) FLine (ok_lines FLines (OT 0) gThird kThird bThird m_enumerate) gLines kLines bLines m_len
  have OA := ok_add (P := P) (w := w) (k := 0) FAdd (OT 0) gThird kThird bThird
  exact ok_main FMain OH gHas kHas bHas OS gSet kSet bSet OL gLine kLine bLine (ok_fill (k := 0) FFill (OC 1) gCount kCount bCount OA gAdd kAdd bAdd m_range m_list m_sorted) gFill kFill bFill m_UNFIT m_IN_LINE m_len
end Kw
open PySem PySem.W PyProof.Rows
set_option maxRecDepth 100000 in
set_option maxHeartbeats 8000000 in
theorem PySem.Challenge.cw_nothreelines_s04_filled_holds : PySem.Challenge.rw_nothreelines_s04_filled.Holds := by
  w_on; k_headS; (case hw => exact ⟨[.int 0, .list []], by decide +kernel, by decide +kernel⟩)
  k_fillS
  refine L2.walk_specK (r := PySem.Challenge.rw_nothreelines_s04_filled) (k := 4) (CX := L2.CX0) (ps := ["n", "s"]) (sp := Kw.spMain) (by decide +kernel) rfl rfl ⟨rfl, by decide, by decide⟩ (fun w h Y => PySem.W.kIn_of Y) ?F ?S (fun _ _ _ _ z => z)
  case F =>
    intro w mg fa h Y KX G hmg
    refine' Kw.all_mk KX G hmg ?a0 ?l0 ?c0 ?k0 ?a1 ?l1 ?c1 ?k1 ?a2 ?l2 ?c2 ?k2 ?a3 ?l3 ?c3 ?k3 ?a4 ?l4 ?c4 ?k4 ?a5 ?l5 ?c5 ?k5 ?a6 ?l6 ?c6 ?k6 ?a7 ?l7 ?c7 ?k7 ?a8 ?l8 ?c8 ?k8 ?u0 ?u1 ?u2 ?z0 ?z1 ?z2 ?z3 ?z4
    (case a0 => k_is)
    (case l0 => k_is)
    (case c0 => k_is)
    (case k0 => k_is)
    (case a1 => k_is)
    (case l1 => k_is)
    (case c1 => k_is)
    (case k1 => k_is)
    (case a2 => k_is)
    (case l2 => k_is)
    (case c2 => k_is)
    (case k2 => k_is)
    (case a3 => k_is)
    (case l3 => k_is)
    (case c3 => k_is)
    (case k3 => k_is)
    (case a4 => k_is)
    (case l4 => k_is)
    (case c4 => k_is)
    (case k4 => k_is)
    (case a5 => k_is)
    (case l5 => k_is)
    (case c5 => k_is)
    (case k5 => k_is)
    (case a6 => k_is)
    (case l6 => k_is)
    (case c6 => k_is)
    (case k6 => k_is)
    (case a7 => k_is)
    (case l7 => k_is)
    (case c7 => k_is)
    (case k7 => k_is)
    (case a8 => k_is)
    (case l8 => k_is)
    (case c8 => k_is)
    (case k8 => k_is)
    (case u0 => k_is)
    (case u1 => k_is)
    (case u2 => k_is)
    (case z0 => k_is)
    (case z1 => k_is)
    (case z2 => k_is)
    (case z3 => k_is)
    (case z4 => k_is)
  case S =>
    intro K H xs a hO hwi hask hx
    have q : (Codec.inInt 0 4294967295 a.1 && ((Codec.inLen 0 100 a.2.1 && a.2.1.all (Codec.inInt 0 4294967295)) && true)) = true := hwi
    rw [Bool.and_eq_true, Bool.and_eq_true, Bool.and_eq_true] at q
    have q1 := (Codec.inInt_iff.mp q.1).1
    have q2 := (Codec.inNat_iff.mp q.2.1.1).2
    have q3 : ∀ x ∈ a.2.1, 0 ≤ x := fun x hx => (Codec.inInt_iff.mp (List.all_eq_true.mp q.2.1.2 x hx)).1
    obtain ⟨n, l, u⟩ := a
    obtain ⟨n, rfl⟩ := Int.eq_ofNat_of_zero_le (show 0 ≤ n from q1)
    obtain ⟨l, rfl⟩ : ∃ s : List Nat, l = Kz.up s := ⟨_, (Kz.up_down q3).symm⟩
    cases hx with
    | cons h1 h2 =>
      cases h1
      cases h2 with
      | cons h3 h4 =>
        cases h4
        cases h3 with
        | lst hs ha =>
          have e := L2.ints_dw (Kz.up l) _ ha
          subst e
          rw [Kw.nV_ints] at hs
          exact ⟨n, _, l, rfl, hs, (by have z : (Kz.up l).length ≤ 100 := q2; unfold Kz.up at z; rwa [List.length_map] at z), fun H' p hp => .lst (L2.SqL.of hp) (L2.dw_ints _)⟩
#print axioms PySem.Challenge.cw_nothreelines_s04_filled_holds
