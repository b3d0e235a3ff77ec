import PyProof.Rows.All
import Wide.All
import OpenK.AllK
import Wide.FinOn
import Open.SpecLaws
import KE.OsGo
import HandS.ForSpec
import HandS.Dict
import HandS.Iter
import HandS.WordsDict
import HandS.Walk
import HandS.Conv
import HandS.SortInts
import PySem.Challenge.RW_nothreelines_s09_moved
set_option Elab.async false
set_option linter.all false
set_option maxRecDepth 100000
set_option maxHeartbeats 4000000
namespace Kz
/-! ### third -/
theorem third_zero (x y : Nat) : Kzt3.third 0 x y = 0 := rfl
theorem third_succ (i x y : Nat) : Kzt3.third (i + 1) x y = Kzt3.third i x y + (6 - x / 3 ^ i % 3 - y / 3 ^ i % 3) % 3 * 3 ^ i := by
  unfold Kzt3.third
  rw [List.range_succ, List.map_append, List.foldl_append]
  rfl
theorem third_lt (i x y : Nat) : Kzt3.third i x y < 3 ^ i := by
  induction i with
  | zero => exact Nat.one_pos
  | succ i ih =>
    rw [third_succ, Nat.pow_succ]
    have h : (6 - x / 3 ^ i % 3 - y / 3 ^ i % 3) % 3 < 3 := Nat.mod_lt _ (by decide)
    generalize (6 - x / 3 ^ i % 3 - y / 3 ^ i % 3) % 3 = d at h
    have h2 : d * 3 ^ i ≤ 2 * 3 ^ i := Nat.mul_le_mul_right _ (by omega)
    omega
theorem pow_pos3 (i : Nat) : 0 < 3 ^ i := Nat.pow_pos (by decide)
theorem pow_le81 {i : Nat} (h : i ≤ 4) : 3 ^ i ≤ 81 := Nat.pow_le_pow_right (n := 3) (by decide) h
/-- one turn of the loop, as Python reckons it -/
theorem turn_third (i x y : Nat) :
    (Kzt3.third i x y : Int) + (6 - ((x : Int) / ((3 ^ i : Nat) : Int) % 3 + (y : Int) / ((3 ^ i : Nat) : Int) % 3)) % 3 * ((3 ^ i : Nat) : Int) = ((Kzt3.third (i + 1) x y : Nat) : Int) := by
  rw [third_succ]
  have e1 : (x : Int) / ((3 ^ i : Nat) : Int) % 3 = ((x / 3 ^ i % 3 : Nat) : Int) := rfl
  have e2 : (y : Int) / ((3 ^ i : Nat) : Int) % 3 = ((y / 3 ^ i % 3 : Nat) : Int) := rfl
  rw [e1, e2]
  have h1 : x / 3 ^ i % 3 < 3 := Nat.mod_lt _ (by decide)
  have h2 : y / 3 ^ i % 3 < 3 := Nat.mod_lt _ (by decide)
  generalize x / 3 ^ i % 3 = a at h1
  generalize y / 3 ^ i % 3 = b at h2
  have e3 : (6 - ((a : Int) + (b : Int))) % 3 = (((6 - a - b) % 3 : Nat) : Int) := by omega
  rw [e3, Int.natCast_add, Int.natCast_mul]
theorem turn_pow (i : Nat) : ((3 ^ i : Nat) : Int) * 3 = ((3 ^ (i + 1) : Nat) : Int) := by
  rw [Nat.pow_succ, Int.natCast_mul]
  rfl
/-! ### sets -/
/-- the loop of is_set from its item on -/
def chk (cnt : Nat) : Nat → List Nat → Bool
  | _, [] => true
  | lo, p :: r => if p < lo ∨ cnt ≤ p then false else chk cnt (p + 1) r
theorem chk_nil (cnt lo : Nat) : chk cnt lo [] = true := rfl
theorem chk_cons (cnt lo p : Nat) (r : List Nat) : chk cnt lo (p :: r) = if p < lo ∨ cnt ≤ p then false else chk cnt (p + 1) r := rfl
theorem chk_low {cnt : Nat} : ∀ {s : List Nat} {lo : Nat}, chk cnt lo s = true → ∀ x ∈ s, lo ≤ x ∧ x < cnt
  | [], _, _, x, h => by cases h
  | p :: r, lo, h, x, hx => by
    unfold chk at h
    by_cases c : p < lo ∨ cnt ≤ p
    · rw [if_pos c] at h
      cases h
    · rw [if_neg c] at h
      cases hx with
      | head => omega
      | tail _ hx =>
        have := chk_low h x hx
        omega
theorem chk_ok {cnt : Nat} : ∀ {s : List Nat} {lo : Nat}, chk cnt lo s = (Kzt3.rising s && s.all (fun x => decide (x < cnt)) && decide (∀ x ∈ s.head?, lo ≤ x))
  | [], _ => by simp [chk, Kzt3.rising]
  | [p], lo => by
    simp only [chk, Kzt3.rising]
    by_cases c : p < lo ∨ cnt ≤ p
    · rw [if_pos c]
      simp
      omega
    · rw [if_neg c]
      simp
      omega
  | p :: q :: r, lo => by
    have ih := chk_ok (cnt := cnt) (s := q :: r) (lo := p + 1)
    unfold chk
    rw [ih, show Kzt3.rising (p :: q :: r) = (decide (p < q) && Kzt3.rising (q :: r)) from rfl]
    by_cases c : p < lo ∨ cnt ≤ p
    · rw [if_pos c]
      simp
      omega
    · rw [if_neg c]
      have c1 : p < cnt := by omega
      have c2 : lo ≤ p := by omega
      by_cases d : p < q
      · have d' : p + 1 ≤ q := d
        simp [c1, c2, d, d']
      · have d' : ¬ p + 1 ≤ q := d
        simp [d, d']
theorem chk_set (n : Nat) (s : List Nat) : chk (3 ^ n) 0 s = Kzt3.okSet n s := by
  rw [chk_ok]
  unfold Kzt3.okSet
  simp
/-- what rises -/
theorem chk_pair {cnt : Nat} : ∀ {s : List Nat} {lo : Nat}, chk cnt lo s = true → s.Pairwise (· < ·)
  | [], _, _ => .nil
  | p :: r, lo, h => by
    unfold chk at h
    by_cases c : p < lo ∨ cnt ≤ p
    · rw [if_pos c] at h
      cases h
    · rw [if_neg c] at h
      exact .cons (fun x hx => (chk_low h x hx).1) (chk_pair h)
theorem ok_pair {n : Nat} {s : List Nat} (h : Kzt3.okSet n s = true) : s.Pairwise (· < ·) := chk_pair ((chk_set n s).trans h)
theorem ok_lt {n : Nat} {s : List Nat} (h : Kzt3.okSet n s = true) : ∀ x ∈ s, x < 3 ^ n := fun x hx => (chk_low ((chk_set n s).trans h) x hx).2
/-! ### lists -/
theorem take_more {α : Type} : ∀ {l : List α} {i : Nat} {x : α}, l[i]? = some x → l.take (i + 1) = l.take i ++ [x]
  | [], i, x, h => by simp at h
  | a :: l, 0, x, h => by
    have e : a = x := Option.some.inj h
    subst e
    rfl
  | a :: l, i + 1, x, h => by
    have ih := take_more (l := l) (i := i) (x := x) h
    show a :: l.take (i + 1) = a :: l.take i ++ [x]
    rw [ih]
    rfl
theorem drop_more {α : Type} : ∀ {l : List α} {i : Nat} {x : α}, l[i]? = some x → l.drop i = x :: l.drop (i + 1)
  | [], i, x, h => by simp at h
  | a :: l, 0, x, h => by
    have e : a = x := Option.some.inj h
    subst e
    rfl
  | a :: l, i + 1, x, h => drop_more (l := l) (i := i) (x := x) h
/-! ### threes -/
abbrev Tri := Nat × Nat × Nat
/-- a second point's three, x the first -/
def tri (n : Nat) (s : List Nat) (x y : Nat) : Option Tri := if y < Kzt3.third n x y ∧ s.contains (Kzt3.third n x y) = true then some (x, y, Kzt3.third n x y) else none
theorem fm_none {α β : Type} {f : α → Option β} : ∀ {l : List α}, (∀ x ∈ l, f x = none) → l.filterMap f = []
  | [], _ => rfl
  | a :: l, h => by
    rw [List.filterMap_cons, h a List.mem_cons_self]
    exact fm_none fun x hx => h x (List.mem_cons_of_mem _ hx)
theorem fm_eq {α β : Type} {f g : α → Option β} : ∀ {l : List α}, (∀ x ∈ l, f x = g x) → l.filterMap f = l.filterMap g
  | [], _ => rfl
  | a :: l, h => by
    rw [List.filterMap_cons, List.filterMap_cons, h a List.mem_cons_self, fm_eq fun x hx => h x (List.mem_cons_of_mem _ hx)]
theorem row_of {n : Nat} {s : List Nat} (hs : s.Pairwise (· < ·)) {i x : Nat} (hi : s[i]? = some x) :
    (s.filterMap fun y => let z := Kzt3.third n x y
      if x < y ∧ y < z ∧ s.contains z = true then some (x, y, z) else none) = (s.drop (i + 1)).filterMap (tri n s x) := by
  have e : s = s.take i ++ x :: s.drop (i + 1) := by
    rw [← drop_more hi]
    exact (List.take_append_drop i s).symm
  have hp := hs
  rw [e] at hp
  rw [List.pairwise_append] at hp
  obtain ⟨_, p2, p3⟩ := hp
  rw [List.pairwise_cons] at p2
  have h1 : ∀ (f : Nat → Option Tri), s.filterMap f = (s.take i).filterMap f ++ (x :: s.drop (i + 1)).filterMap f := fun f => by
    conv => lhs; rw [e]
    rw [List.filterMap_append]
  rw [h1, List.filterMap_cons]
  rw [fm_none fun y hy => ?_]
  · have hx : ¬ (x < x ∧ x < Kzt3.third n x x ∧ s.contains (Kzt3.third n x x) = true) := fun c => Nat.lt_irrefl _ c.1
    dsimp only
    rw [if_neg hx]
    dsimp only
    rw [List.nil_append]
    refine fm_eq fun y hy => ?_
    have hxy : x < y := p2.1 y hy
    unfold tri
    by_cases c : y < Kzt3.third n x y ∧ s.contains (Kzt3.third n x y) = true
    · rw [if_pos c, if_pos ⟨hxy, c⟩]
    · rw [if_neg c, if_neg fun q => c q.2]
  · have hyx : y < x := p3 y hy x List.mem_cons_self
    dsimp only
    rw [if_neg fun c => Nat.lt_asymm c.1 hyx]
/-- what the loops have behind i first points -/
def lns (n : Nat) (s : List Nat) (i : Nat) : List Tri := (s.take i).flatMap fun x => s.filterMap fun y => let z := Kzt3.third n x y
  if x < y ∧ y < z ∧ s.contains z = true then some (x, y, z) else none
theorem lns_all (n : Nat) (s : List Nat) : lns n s s.length = Kzt3.threes n s := by
  unfold lns Kzt3.threes
  rw [List.take_length]
theorem lns_more {n : Nat} {s : List Nat} (hs : s.Pairwise (· < ·)) {i x : Nat} (hi : s[i]? = some x) : lns n s (i + 1) = lns n s i ++ (s.drop (i + 1)).filterMap (tri n s x) := by
  unfold lns
  rw [take_more hi, List.flatMap_append, List.flatMap_cons, List.flatMap_nil, List.append_nil, row_of hs hi]
/-- and behind j of the second ones -/
def lnsj (n : Nat) (s : List Nat) (i x j : Nat) : List Tri := lns n s i ++ ((s.drop (i + 1)).take j).filterMap (tri n s x)
theorem lnsj_more {n : Nat} {s : List Nat} {i x j y : Nat} (hj : (s.drop (i + 1))[j]? = some y) : lnsj n s i x (j + 1) = lnsj n s i x j ++ (tri n s x y).toList := by
  unfold lnsj
  rw [take_more hj, List.filterMap_append, List.append_assoc]
  congr 1
theorem lnsj_all {n : Nat} {s : List Nat} (hs : s.Pairwise (· < ·)) {i x : Nat} (hi : s[i]? = some x) : lnsj n s i x (s.drop (i + 1)).length = lns n s (i + 1) := by
  unfold lnsj
  rw [List.take_length, lns_more hs hi]
theorem lns_len {n : Nat} {s : List Nat} (i : Nat) : (lns n s i).length ≤ i * s.length := by
  unfold lns
  induction i with
  | zero => simp
  | succ i ih =>
    cases e : s[i]? with
    | none =>
      have z : s.take (i + 1) = s.take i := by
        rw [List.getElem?_eq_none_iff] at e
        rw [List.take_of_length_le (by omega), List.take_of_length_le e]
      rw [z]
      refine Nat.le_trans ih (Nat.mul_le_mul_right _ (Nat.le_succ i))
    | some x =>
      rw [take_more e, List.flatMap_append, List.length_append, List.flatMap_cons, List.flatMap_nil, List.append_nil, Nat.succ_mul]
      exact Nat.add_le_add ih (List.length_filterMap_le _ _)
theorem lnsj_len {n : Nat} {s : List Nat} {i x j : Nat} : (lnsj n s i x j).length ≤ i * s.length + s.length := by
  unfold lnsj
  rw [List.length_append]
  refine Nat.add_le_add (lns_len i) (Nat.le_trans (List.length_filterMap_le _ _) ?_)
  rw [List.length_take, List.length_drop]
  omega
/-! ### numbers handed in -/
def up (l : List Nat) : List Int := l.map fun (x : Nat) => (x : Int)
theorem up_down {l : List Int} (h : ∀ x ∈ l, 0 ≤ x) : up (l.map Int.toNat) = l := by
  induction l with
  | nil => rfl
  | cons a l ih =>
    show ((a.toNat : Nat) : Int) :: up (l.map Int.toNat) = a :: l
    rw [ih fun x hx => h x (List.mem_cons_of_mem _ hx), Int.toNat_of_nonneg (h a List.mem_cons_self)]
end Kz
namespace Kz
/-! ### the third, digit by digit -/
theorem digit_low {i m : Nat} (h : i < m) (y c : Nat) : (y + c * 3 ^ m) / 3 ^ i % 3 = y / 3 ^ i % 3 := by
  have e : c * 3 ^ m = 3 ^ i * (3 * (c * 3 ^ (m - i - 1))) := by
    have e1 : 3 ^ m = 3 ^ i * (3 * 3 ^ (m - i - 1)) := by
      rw [← Nat.pow_succ', ← Nat.pow_add]
      congr 1
      omega
    rw [e1, Nat.mul_left_comm c, Nat.mul_left_comm c]
  rw [e, Nat.add_mul_div_left _ _ (pow_pos3 i), Nat.add_mul_mod_self_left]
theorem third_low : ∀ {n m : Nat}, n ≤ m → ∀ x y c : Nat, Kzt3.third n x (y + c * 3 ^ m) = Kzt3.third n x y
  | 0, _, _, _, _, _ => rfl
  | n + 1, m, h, x, y, c => by
    rw [third_succ, third_succ, third_low (Nat.le_of_succ_le h), digit_low h]
theorem third_comm (n x y : Nat) : Kzt3.third n x y = Kzt3.third n y x := by
  induction n with
  | zero => rfl
  | succ n ih => rw [third_succ, third_succ, ih, Nat.sub_right_comm]
theorem third_inv0 (n x y : Nat) : Kzt3.third n x (Kzt3.third n x y) = y % 3 ^ n := by
  induction n with
  | zero => rw [third_zero, Nat.pow_zero, Nat.mod_one]
  | succ n ih =>
    rw [third_succ n x (Kzt3.third (n + 1) x y), third_succ n x y, third_low (Nat.le_refl n), ih]
    rw [Nat.mod_pow_succ, Nat.add_mul_div_right _ _ (pow_pos3 n), Nat.div_eq_of_lt (third_lt n x y), Nat.zero_add, Nat.mod_mod, Nat.mul_comm (3 ^ n)]
    congr 2
    have h1 : x / 3 ^ n % 3 < 3 := Nat.mod_lt _ (by decide)
    have h2 : y / 3 ^ n % 3 < 3 := Nat.mod_lt _ (by decide)
    omega
theorem third_self0 (n x : Nat) : Kzt3.third n x x = x % 3 ^ n := by
  induction n with
  | zero => rw [third_zero, Nat.pow_zero, Nat.mod_one]
  | succ n ih =>
    rw [third_succ, ih, Nat.mod_pow_succ, Nat.mul_comm (3 ^ n)]
    congr 2
    have h1 : x / 3 ^ n % 3 < 3 := Nat.mod_lt _ (by decide)
    omega
theorem third_inv {n x y : Nat} (h : y < 3 ^ n) : Kzt3.third n x (Kzt3.third n x y) = y := (third_inv0 n x y).trans (Nat.mod_eq_of_lt h)
theorem third_self {n x : Nat} (h : x < 3 ^ n) : Kzt3.third n x x = x := (third_self0 n x).trans (Nat.mod_eq_of_lt h)
/-- the third of x and y is z just if that of x and z is y -/
theorem third_iff {n x y z : Nat} (hy : y < 3 ^ n) (hz : z < 3 ^ n) : Kzt3.third n x y = z ↔ Kzt3.third n x z = y :=
  ⟨fun e => by rw [← e]; exact third_inv hy, fun e => by rw [← e]; exact third_inv hz⟩
theorem third_left {n x y : Nat} (hx : x < 3 ^ n) (hy : y < 3 ^ n) : Kzt3.third n x y = x ↔ y = x := by
  rw [third_iff hy hx, third_self hx]
  exact eq_comm
theorem third_right {n x y : Nat} (hx : x < 3 ^ n) (hy : y < 3 ^ n) : Kzt3.third n x y = y ↔ x = y := by
  rw [third_comm, third_left hy hx]
/-! ### what may be added -/
theorem may_iff {n : Nat} {s : List Nat} (hs : ∀ y ∈ s, y < 3 ^ n) {x : Nat} (hx : x < 3 ^ n) : Kzt3.may n s x = true ↔ x ∉ s ∧ ∀ y ∈ s, Kzt3.third n x y ∉ s := by
  unfold Kzt3.may
  rw [Bool.and_eq_true, List.all_eq_true]
  constructor
  · rintro ⟨h1, h2⟩
    have n1 : x ∉ s := by simpa using h1
    refine ⟨n1, fun y hy hc => ?_⟩
    have q := h2 y hy
    have e1 : ¬ Kzt3.third n x y = x := fun e => n1 (by rw [← (third_left hx (hs y hy)).mp e]; exact hy)
    have e2 : ¬ Kzt3.third n x y = y := fun e => n1 (by rw [(third_right hx (hs y hy)).mp e]; exact hy)
    simp [hc, e1, e2] at q
  · rintro ⟨h1, h2⟩
    refine ⟨by simpa using h1, fun y hy => ?_⟩
    have q := h2 y hy
    simp [q]
/-- one point more -/
theorem may_more {n : Nat} {s : List Nat} (hs : ∀ y ∈ s, y < 3 ^ n) {x y : Nat} (hx : x < 3 ^ n) (hy : y < 3 ^ n) (hm : Kzt3.may n s y = true) (hxy : y ≠ x) :
    Kzt3.may n (s ++ [x]) y = true ↔ ∀ z ∈ s, Kzt3.third n x z ≠ y := by
  have hs' : ∀ z ∈ s ++ [x], z < 3 ^ n := fun z hz => by
    rcases List.mem_append.mp hz with h | h
    · exact hs z h
    · rw [List.mem_singleton.mp h]; exact hx
  obtain ⟨m1, m2⟩ := (may_iff hs hy).mp hm
  rw [may_iff hs' hy]
  constructor
  · rintro ⟨_, h2⟩ z hz e
    refine h2 x (List.mem_append_right _ (List.mem_singleton.mpr rfl)) (List.mem_append_left _ ?_)
    rw [third_comm, (third_iff (hs z hz) hy).mp e]
    exact hz
  · intro h
    refine ⟨fun c => ?_, fun z hz c => ?_⟩
    · rcases List.mem_append.mp c with q | q
      · exact m1 q
      · exact hxy (List.mem_singleton.mp q)
    · rcases List.mem_append.mp hz with q | q
      · rcases List.mem_append.mp c with r | r
        · exact m2 z q r
        · have e : Kzt3.third n y z = x := List.mem_singleton.mp r
          rw [third_comm, third_iff hy hx] at e
          exact h z q (by rw [third_comm]; exact e)
      · have e : z = x := List.mem_singleton.mp q
        subst e
        rcases List.mem_append.mp c with r | r
        · exact h _ r (by rw [third_comm n y z]; exact third_inv hy)
        · exact hxy ((third_right hy hx).mp (List.mem_singleton.mp r))
/-! ### no three in a line -/
theorem mem_threes {n : Nat} {s : List Nat} {t : Tri} : t ∈ Kzt3.threes n s ↔ t.1 ∈ s ∧ t.2.1 ∈ s ∧ t.2.2 ∈ s ∧ t.1 < t.2.1 ∧ t.2.1 < t.2.2 ∧ t.2.2 = Kzt3.third n t.1 t.2.1 := by
  unfold Kzt3.threes
  rw [List.mem_flatMap]
  constructor
  · rintro ⟨x, hx, h⟩
    obtain ⟨y, hy, e⟩ := List.mem_filterMap.mp h
    dsimp only at e
    by_cases c : x < y ∧ y < Kzt3.third n x y ∧ s.contains (Kzt3.third n x y) = true
    · rw [if_pos c] at e
      cases e
      exact ⟨hx, hy, by simpa using c.2.2, c.1, c.2.1, rfl⟩
    · rw [if_neg c] at e
      cases e
  · obtain ⟨x, y, z⟩ := t
    rintro ⟨hx, hy, hz, h1, h2, h3⟩
    dsimp only at hx hy hz h1 h2 h3
    refine ⟨x, hx, List.mem_filterMap.mpr ⟨y, hy, ?_⟩⟩
    dsimp only
    rw [← h3, if_pos ⟨h1, h2, by simpa using hz⟩]
theorem free_iff {n : Nat} {s : List Nat} (hs : ∀ y ∈ s, y < 3 ^ n) : Kzt3.free n s = true ↔ ∀ x ∈ s, ∀ y ∈ s, x ≠ y → Kzt3.third n x y ∉ s := by
  unfold Kzt3.free
  rw [List.isEmpty_iff]
  constructor
  · intro h x hx y hy ne hc
    have no : ∀ a ∈ s, ∀ b ∈ s, ∀ c ∈ s, a < b → b < c → c = Kzt3.third n a b → False := fun a ha b hb c hc h1 h2 e => by
      have q : ((a, b, c) : Tri) ∈ Kzt3.threes n s := mem_threes.mpr ⟨ha, hb, hc, h1, h2, e⟩
      rw [h] at q
      cases q
    have hX := hs x hx
    have hY := hs y hy
    generalize e : Kzt3.third n x y = z at hc
    have hZ := hs z hc
    have nx : z ≠ x := fun q => ne ((third_left hX hY).mp (e.trans q)).symm
    have ny : z ≠ y := fun q => ne ((third_right hX hY).mp (e.trans q))
    have e2 : Kzt3.third n y x = z := (third_comm n y x).trans e
    have e3 : Kzt3.third n x z = y := (third_iff hY hZ).mp e
    have e4 : Kzt3.third n z x = y := (third_comm n z x).trans e3
    have e5 : Kzt3.third n y z = x := (third_iff hX hZ).mp e2
    have e6 : Kzt3.third n z y = x := (third_comm n z y).trans e5
    rcases Nat.lt_or_gt_of_ne ne with a | a
    · rcases Nat.lt_or_gt_of_ne ny with b | b
      · rcases Nat.lt_or_gt_of_ne nx with c | c
        · exact no z hc x hx y hy c a e4.symm
        · exact no x hx z hc y hy c b e3.symm
      · exact no x hx y hy z hc a b e.symm
    · rcases Nat.lt_or_gt_of_ne nx with b | b
      · rcases Nat.lt_or_gt_of_ne ny with c | c
        · exact no z hc y hy x hx c a e6.symm
        · exact no y hy z hc x hx c b e5.symm
      · exact no y hy x hx z hc a b e2.symm
  · intro h
    cases e : Kzt3.threes n s with
    | nil => rfl
    | cons t r =>
      have q : t ∈ Kzt3.threes n s := by rw [e]; exact List.mem_cons_self
      obtain ⟨h1, h2, h3, h4, _, h6⟩ := mem_threes.mp q
      exact absurd (by rw [← h6]; exact h3) (h _ h1 _ h2 (Nat.ne_of_lt h4))
/-! ### put: one more into a rising row -/
theorem mem_put {x z : Nat} : ∀ {l : List Nat}, z ∈ Kzt3.put x l ↔ z = x ∨ z ∈ l
  | [] => by
    unfold Kzt3.put
    simp
  | y :: l => by
    unfold Kzt3.put
    by_cases c1 : x < y
    · rw [if_pos c1]
      simp
    · rw [if_neg c1]
      by_cases c2 : x = y
      · rw [if_pos c2]
        subst c2
        simp
      · rw [if_neg c2, List.mem_cons, mem_put, List.mem_cons]
        constructor
        · rintro (h | h | h)
          · exact .inr (.inl h)
          · exact .inl h
          · exact .inr (.inr h)
        · rintro (h | h | h)
          · exact .inr (.inl h)
          · exact .inl h
          · exact .inr (.inr h)
theorem put_pair {x : Nat} : ∀ {l : List Nat}, l.Pairwise (· < ·) → (Kzt3.put x l).Pairwise (· < ·)
  | [], _ => List.pairwise_singleton _ _
  | y :: l, h => by
    have h2 := List.pairwise_cons.mp h
    unfold Kzt3.put
    by_cases c1 : x < y
    · rw [if_pos c1]
      exact .cons (fun z hz => by
        rcases List.mem_cons.mp hz with q | q
        · rw [q]; exact c1
        · exact Nat.lt_trans c1 (h2.1 z q)) h
    · rw [if_neg c1]
      by_cases c2 : x = y
      · rw [if_pos c2]
        exact h
      · rw [if_neg c2]
        exact .cons (fun z hz => by
          rcases mem_put.mp hz with q | q
          · omega
          · exact h2.1 z q) (put_pair h2.2)
/-- two rising rows of the same numbers are one -/
theorem rise_ext : ∀ {l m : List Nat}, l.Pairwise (· < ·) → m.Pairwise (· < ·) → (∀ x, x ∈ l ↔ x ∈ m) → l = m
  | [], [], _, _, _ => rfl
  | [], b :: m, _, _, h => absurd ((h b).mpr List.mem_cons_self) (by simp)
  | a :: l, [], _, _, h => absurd ((h a).mp List.mem_cons_self) (by simp)
  | a :: l, b :: m, hl, hm, h => by
    have h1 := List.pairwise_cons.mp hl
    have h2 := List.pairwise_cons.mp hm
    have e : a = b := by
      rcases List.mem_cons.mp ((h a).mp List.mem_cons_self) with q | q
      · exact q
      · rcases List.mem_cons.mp ((h b).mpr List.mem_cons_self) with r | r
        · exact r.symm
        · have := h2.1 a q
          have := h1.1 b r
          omega
    subst e
    congr 1
    refine rise_ext h1.2 h2.2 fun x => ?_
    constructor
    · intro hx
      rcases List.mem_cons.mp ((h x).mp (List.mem_cons_of_mem _ hx)) with q | q
      · subst q
        exact absurd (h1.1 x hx) (Nat.lt_irrefl _)
      · exact q
    · intro hx
      rcases List.mem_cons.mp ((h x).mpr (List.mem_cons_of_mem _ hx)) with q | q
      · subst q
        exact absurd (h2.1 x hx) (Nat.lt_irrefl _)
      · exact q
theorem range_pair (n : Nat) : (List.range n).Pairwise (· < ·) := List.pairwise_lt_range
/-- a rising row is what the range has of it -/
theorem rise_filter {N : Nat} {l : List Nat} (hl : l.Pairwise (· < ·)) (hN : ∀ x ∈ l, x < N) : (List.range N).filter (fun x => l.contains x) = l := by
  refine rise_ext ((range_pair N).filter _) hl fun x => ?_
  rw [List.mem_filter, List.mem_range]
  constructor
  · rintro ⟨_, h⟩
    simpa using h
  · intro h
    exact ⟨hN x h, by simpa using h⟩
end Kz
namespace Kz
/-! ### moved -/
def mdig (q m a : List Nat) (x i : Nat) : Nat := (m.getD i 1 * (x / 3 ^ (q.getD i 0) % 3) + a.getD i 0) % 3
theorem mv_zero (q m a : List Nat) (x : Nat) : Kzt3.movedPoint 0 q m a x = 0 := rfl
theorem mv_succ (i : Nat) (q m a : List Nat) (x : Nat) : Kzt3.movedPoint (i + 1) q m a x = Kzt3.movedPoint i q m a x + mdig q m a x i * 3 ^ i := by
  unfold Kzt3.movedPoint
  rw [List.range_succ, List.map_append, List.foldl_append]
  rfl
theorem mdig_lt (q m a : List Nat) (x i : Nat) : mdig q m a x i < 3 := Nat.mod_lt _ (by decide)
theorem mv_lt (i : Nat) (q m a : List Nat) (x : Nat) : Kzt3.movedPoint i q m a x < 3 ^ i := by
  induction i with
  | zero => exact Nat.one_pos
  | succ i ih =>
    rw [mv_succ, Nat.pow_succ]
    have h := mdig_lt q m a x i
    generalize mdig q m a x i = d at h
    have h2 : d * 3 ^ i ≤ 2 * 3 ^ i := Nat.mul_le_mul_right _ (by omega)
    omega
/-- two numbers below p, and digits above: equal just if both are -/
theorem split_eq {p u v c d : Nat} (hu : u < p) (hv : v < p) (e : u + c * p = v + d * p) : u = v ∧ c = d := by
  have h1 : (u + c * p) % p = u := by rw [Nat.add_mul_mod_self_right, Nat.mod_eq_of_lt hu]
  have h2 : (v + d * p) % p = v := by rw [Nat.add_mul_mod_self_right, Nat.mod_eq_of_lt hv]
  have h3 : u = v := by rw [← h1, ← h2, e]
  subst h3
  exact ⟨rfl, Nat.eq_of_mul_eq_mul_right (Nat.lt_of_le_of_lt (Nat.zero_le _) hu) (Nat.add_left_cancel e)⟩
theorem mv_digits {q m a : List Nat} {x y : Nat} : ∀ {n : Nat}, Kzt3.movedPoint n q m a x = Kzt3.movedPoint n q m a y → ∀ i, i < n → mdig q m a x i = mdig q m a y i
  | 0, _, i, hi => absurd hi (Nat.not_lt_zero i)
  | n + 1, e, i, hi => by
    rw [mv_succ, mv_succ] at e
    obtain ⟨e1, e2⟩ := split_eq (mv_lt n q m a x) (mv_lt n q m a y) e
    by_cases c : i = n
    · rw [c]
      exact e2
    · exact mv_digits e1 i (by omega)
theorem dig_ext : ∀ {n x y : Nat}, (∀ j, j < n → x / 3 ^ j % 3 = y / 3 ^ j % 3) → x % 3 ^ n = y % 3 ^ n
  | 0, x, y, _ => by rw [Nat.pow_zero, Nat.mod_one, Nat.mod_one]
  | n + 1, x, y, h => by
    rw [Nat.mod_pow_succ, Nat.mod_pow_succ, dig_ext fun j hj => h j (by omega), h n (by omega)]
theorem mv_inj {n : Nat} {q m a : List Nat} (hq : Kzt3.okPerm n q = true) (hm : ∀ i, i < n → m.getD i 1 = 1 ∨ m.getD i 1 = 2) {x y : Nat} (hx : x < 3 ^ n) (hy : y < 3 ^ n) (e : Kzt3.movedPoint n q m a x = Kzt3.movedPoint n q m a y) : x = y := by
  have hd := mv_digits e
  unfold Kzt3.okPerm at hq
  rw [Bool.and_eq_true, List.all_eq_true] at hq
  have hl : q.length = n := by simpa using hq.1
  have key : x % 3 ^ n = y % 3 ^ n := dig_ext fun j hj => by
    have hc : j ∈ q := by simpa using hq.2 j (List.mem_range.mpr hj)
    obtain ⟨i, hi⟩ := List.getElem?_of_mem hc
    have hin : i < n := by rw [← hl]; exact (List.getElem?_eq_some_iff.mp hi).1
    have hg : q.getD i 0 = j := by rw [List.getD_eq_getElem?_getD, hi]; rfl
    have z := hd i hin
    unfold mdig at z
    rw [hg] at z
    have h1 : x / 3 ^ j % 3 < 3 := Nat.mod_lt _ (by decide)
    have h2 : y / 3 ^ j % 3 < 3 := Nat.mod_lt _ (by decide)
    generalize x / 3 ^ j % 3 = u at z h1 ⊢
    generalize y / 3 ^ j % 3 = v at z h2 ⊢
    rcases hm i hin with c | c <;> rw [c] at z <;> omega
  rwa [Nat.mod_eq_of_lt hx, Nat.mod_eq_of_lt hy] at key
/-- q is 0 to n - 1 in some order -/
theorem perm_of : ∀ {n : Nat} {q : List Nat}, q.length = n → (∀ i, i < n → i ∈ q) → q.Perm (List.range n)
  | 0, q, hl, _ => by rw [List.eq_nil_of_length_eq_zero hl]; exact .refl _
  | n + 1, q, hl, h => by
    have hn := h n (Nat.lt_succ_self n)
    have p1 := List.perm_cons_erase hn
    have p2 : (q.erase n).Perm (List.range n) := perm_of (by rw [List.length_erase_of_mem hn]; omega) fun i hi => (List.mem_erase_of_ne (by omega)).mpr (h i (by omega))
    rw [List.range_succ]
    exact (p1.trans (p2.cons n)).trans (List.perm_append_singleton n _).symm
theorem okPerm_iff {n : Nat} {q : List Nat} : Kzt3.okPerm n q = true ↔ q.Perm (List.range n) := by
  unfold Kzt3.okPerm
  rw [Bool.and_eq_true, List.all_eq_true]
  constructor
  · rintro ⟨h1, h2⟩
    exact perm_of (by simpa using h1) fun i hi => by simpa using h2 i (List.mem_range.mpr hi)
  · intro p
    refine ⟨by simpa using p.length_eq, fun i hi => ?_⟩
    simpa using p.mem_iff.mpr hi
/-! ### put, many -/
theorem put_perm {x : Nat} : ∀ {l : List Nat}, x ∉ l → (Kzt3.put x l).Perm (x :: l)
  | [], _ => .refl _
  | y :: l, h => by
    unfold Kzt3.put
    by_cases c1 : x < y
    · rw [if_pos c1]
    · rw [if_neg c1, if_neg fun e => h (by rw [e]; exact List.mem_cons_self)]
      exact ((put_perm fun z => h (List.mem_cons_of_mem _ z)).cons y).trans (.swap ..)
/-- the row behind i of its points -/
def mvd (n : Nat) (q m a s : List Nat) (i : Nat) : List Nat := (s.take i).foldl (fun l x => Kzt3.put (Kzt3.movedPoint n q m a x) l) []
theorem mvd_zero (n : Nat) (q m a s : List Nat) : mvd n q m a s 0 = [] := by
  unfold mvd
  rw [List.take_zero]
  rfl
theorem mvd_more {n : Nat} {q m a s : List Nat} {i x : Nat} (hi : s[i]? = some x) : mvd n q m a s (i + 1) = Kzt3.put (Kzt3.movedPoint n q m a x) (mvd n q m a s i) := by
  unfold mvd
  rw [take_more hi, List.foldl_append]
  rfl
theorem mvd_all (n : Nat) (q m a s : List Nat) : mvd n q m a s s.length = Kzt3.moved n q m a s := by
  unfold mvd Kzt3.moved
  rw [List.take_length]
theorem mvd_mem {n : Nat} {q m a s : List Nat} : ∀ {i : Nat}, i ≤ s.length → ∀ z, z ∈ mvd n q m a s i ↔ ∃ x ∈ s.take i, Kzt3.movedPoint n q m a x = z
  | 0, _, z => by
    rw [mvd_zero, List.take_zero]
    simp
  | i + 1, h, z => by
    have hi : s[i]? = some s[i] := List.getElem?_eq_getElem (by omega)
    rw [mvd_more hi, mem_put, mvd_mem (by omega), take_more hi]
    constructor
    · rintro (e | ⟨x, hx, e⟩)
      · exact ⟨s[i], List.mem_append_right _ (List.mem_singleton.mpr rfl), e.symm⟩
      · exact ⟨x, List.mem_append_left _ hx, e⟩
    · rintro ⟨x, hx, e⟩
      rcases List.mem_append.mp hx with c | c
      · exact .inr ⟨x, c, e⟩
      · rw [List.mem_singleton.mp c] at e
        exact .inl e.symm
theorem mvd_pair (n : Nat) (q m a s : List Nat) : ∀ {i : Nat}, i ≤ s.length → (mvd n q m a s i).Pairwise (· < ·)
  | 0, _ => by rw [mvd_zero]; exact .nil
  | i + 1, h => by
    rw [mvd_more (List.getElem?_eq_getElem (by omega))]
    exact put_pair (mvd_pair n q m a s (by omega))
theorem moved_pair (n : Nat) (q m a s : List Nat) : (Kzt3.moved n q m a s).Pairwise (· < ·) := by
  rw [← mvd_all]
  exact mvd_pair n q m a s (Nat.le_refl _)
/-- moved: the points' places, in some order -/
theorem mvd_perm {n : Nat} {q m a s : List Nat} (hq : Kzt3.okPerm n q = true) (hm : ∀ i, i < n → m.getD i 1 = 1 ∨ m.getD i 1 = 2) (hs : s.Pairwise (· < ·)) (hl : ∀ x ∈ s, x < 3 ^ n) : ∀ {i : Nat}, i ≤ s.length → (mvd n q m a s i).Perm ((s.take i).map (Kzt3.movedPoint n q m a))
  | 0, _ => by
    rw [mvd_zero, List.take_zero]
    exact .refl _
  | i + 1, h => by
    have hi : s[i]? = some s[i] := List.getElem?_eq_getElem (by omega)
    have ih := mvd_perm (a := a) hq hm hs hl (i := i) (by omega)
    rw [mvd_more hi, take_more hi, List.map_append]
    have no : Kzt3.movedPoint n q m a s[i] ∉ mvd n q m a s i := fun z => by
      obtain ⟨x, hx, e⟩ := (mvd_mem (by omega) _).mp z
      have hxs := List.mem_of_mem_take hx
      have e2 := mv_inj hq hm (hl x hxs) (hl _ (List.getElem_mem (by omega))) e
      obtain ⟨j, hj⟩ := List.getElem?_of_mem hx
      have hji : j < i ∧ j < s.length := by
        have := (List.getElem?_eq_some_iff.mp hj).1
        rw [List.length_take] at this
        omega
      have hj2 : s[j]? = some x := by
        rw [List.getElem?_take] at hj
        rwa [if_pos hji.1] at hj
      have lt : s[j]'hji.2 < s[i] := List.pairwise_iff_getElem.mp hs j i hji.2 (by omega) hji.1
      have e3 : s[j]'hji.2 = x := Option.some.inj ((List.getElem?_eq_getElem hji.2).symm.trans hj2)
      rw [e3, e2] at lt
      exact Nat.lt_irrefl _ lt
    exact (put_perm no).trans ((ih.cons _).trans (List.perm_append_singleton _ _).symm)
theorem moved_perm {n : Nat} {q m a s : List Nat} (hq : Kzt3.okPerm n q = true) (hm : ∀ i, i < n → m.getD i 1 = 1 ∨ m.getD i 1 = 2) (hs : s.Pairwise (· < ·)) (hl : ∀ x ∈ s, x < 3 ^ n) : (Kzt3.moved n q m a s).Perm (s.map (Kzt3.movedPoint n q m a)) := by
  have z := mvd_perm (a := a) hq hm hs hl (Nat.le_refl s.length)
  rwa [mvd_all, List.take_length] at z
theorem moved_len {n : Nat} {q m a s : List Nat} (hq : Kzt3.okPerm n q = true) (hm : ∀ i, i < n → m.getD i 1 = 1 ∨ m.getD i 1 = 2) (hs : s.Pairwise (· < ·)) (hl : ∀ x ∈ s, x < 3 ^ n) : (Kzt3.moved n q m a s).length = s.length := by
  rw [(moved_perm hq hm hs hl).length_eq, List.length_map]
/-- sorted, it is what is due -/
theorem sort_up {ns : List Int} {m f : List Nat} (h1 : ns.Perm (up m)) (h2 : ns.Pairwise (· ≤ ·)) (h3 : m.Perm f) (h4 : f.Pairwise (· < ·)) : ns = up f := by
  have e : ns.Perm (up f) := h1.trans (h3.map _)
  refine e.eq_of_pairwise (le := (· ≤ ·)) (fun a b _ _ x y => Int.le_antisymm x y) h2 ?_
  unfold up
  rw [List.pairwise_map]
  exact h4.imp fun h => by omega
end Kz
namespace Kw
open PySem
def topS (i : Nat) : Stmt := PySem.Challenge.pw_nothreelines_s09_moved.main.body.getD i (.Pass ⟨0, 0, 0, 0⟩)
abbrev sHas : Stmt := topS 4
abbrev sCount : Stmt := topS 5
abbrev sNums : Stmt := topS 6
abbrev sOf : Stmt := topS 7
abbrev sSet : Stmt := topS 8
abbrev sOrder : Stmt := topS 9
abbrev sRow : Stmt := topS 10
abbrev sMvp : Stmt := topS 11
abbrev sMain : Stmt := topS 3
end Kw
namespace Kw
open PySem PySem.Spec PyProof.Rows L2
open PySem.W (Codec)
theorem same_upd {H : Hp} {p : Addr} {o : HO} (h : H p = none) : Same H (upd H p o) := fun b x e => by
  rw [upd_ne (ne_of_none e h)]
  exact e
theorem if_t {c : Bool} {A B : Prop} (hc : c = true) (h : A) : if c = true then A else B := by
  rw [if_pos hc]
  exact h
theorem if_f {c : Bool} {A B : Prop} (hc : c = false) (h : B) : if c = true then A else B := by
  rw [hc, if_neg Bool.false_ne_true]
  exact h
def nV (l : List Nat) : List V := l.map fun (x : Nat) => V.int (x : Int)
theorem nV_len (l : List Nat) : (nV l).length = l.length := List.length_map ..
theorem nV_get {l : List Nat} {i : Nat} {y : V} (h : (nV l)[i]? = some y) : ∃ z : Nat, l[i]? = some z ∧ y = V.int (z : Int) := by
  unfold nV at h
  rw [List.getElem?_map] at h
  cases e : l[i]? with
  | none =>
    rw [e] at h
    cases h
  | some z =>
    rw [e] at h
    exact ⟨z, rfl, (Option.some.inj h).symm⟩
theorem nV_ints (l : List Nat) : (Kz.up l).map V.int = nV l := by
  unfold Kz.up nV
  rw [List.map_map]
  rfl
theorem pow_mul {i : Nat} (h : i ≤ 4) : CMul ((3 ^ i : Nat) : Int) 3 := .inr ⟨by decide, by decide⟩
theorem pow_div {i : Nat} (h : i ≤ 4) (x : Int) : CDiv x ((3 ^ i : Nat) : Int) := by
  have h1 := Kz.pow_pos3 i
  have h2 := Kz.pow_le81 h
  exact ⟨by omega, by omega⟩
theorem pow_mulR {i : Nat} (h : i ≤ 4) (x : Int) : CMul x ((3 ^ i : Nat) : Int) := by
  have h1 := Kz.pow_pos3 i
  have h2 := Kz.pow_le81 h
  exact .inr ⟨by omega, by omega⟩
section
variable {P : Program} {w : World} {K : PySem.W.Frag} {mg : Str → Option Value} {base : Heap}
/-! ### has_points -/
def spHas : Sp := fun vs H Q _ => ∃ n : Nat, vs = [.int n] ∧ Q (.bl (Kzt3.okN n)) H
theorem scHas : FnScope ["n"] ["n"] (defScope sHas) := ⟨rfl, rfl, rfl, by decide +kernel, rfl, by decide +kernel, by decide +kernel⟩
theorem ok_has {f : Addr} {fd : FuncData} {k : Nat} {t : Tok} (F : Fun K "has_points" "has_points" sHas f fd) (mM : mg "MOST_NUMBERS" = some (.int 4 t)) : FnOk P w K mg base CX0 (k + 1) f fd ["n"] spHas := by
  refine F.ok scHas (fun vs H Q E h => ?_) (fun cdv A outer s H vs Q E hr h => ?_)
  · obtain ⟨n, rfl, _⟩ := h
    rfl
  · obtain ⟨n, rfl, q⟩ := h
    refine ⟨_, pss_one (ps_ret (pe_and (pe_cmp (pc_le pe_int (pv 0))) (pe_one (pe_cmp (pc_le (pv 0) (pe_glob (v := .int 4) (by rfl) mM ⟨_, rfl⟩)))))), ?_⟩
    refine ⟨.int n, rfl, 1, n, rfl, rfl, _, rfl, ite2 (fun c => ?_) (fun c => ?_)⟩
    · have c1 : (1 : Int) ≤ (n : Int) := of_decide_eq_true c
      have e : Kzt3.okN n = decide ((n : Int) ≤ 4) := by
        unfold Kzt3.okN
        rw [decide_eq_true (show 1 ≤ n by omega), Bool.true_and]
        exact decide_eq_decide.mpr (by omega)
      rw [e] at q
      exact ⟨.int n, rfl, n, 4, rfl, rfl, q⟩
    · have c1 : ¬ (1 : Int) ≤ (n : Int) := fun z => c (decide_eq_true z)
      have e : Kzt3.okN n = false := by
        unfold Kzt3.okN
        rw [decide_eq_false (show ¬ 1 ≤ n by omega), Bool.false_and]
      rw [e] at q
      exact q
theorem okN_le {n : Nat} (h : Kzt3.okN n = true) : n ≤ 4 := by
  unfold Kzt3.okN at h
  rw [Bool.and_eq_true] at h
  exact of_decide_eq_true h.2
/-! ### point_count -/
def spCount : Sp := fun vs H Q _ => ∃ n : Nat, vs = [.int n] ∧ n ≤ 4 ∧ Q (.int ((3 ^ n : Nat) : Int)) H
theorem scCount : FnScope ["n", "count", "i"] ["n"] (defScope sCount) := ⟨rfl, rfl, rfl, by decide +kernel, rfl, by decide +kernel, by decide +kernel⟩
theorem ok_count {f : Addr} {fd : FuncData} {k : Nat} (F : Fun K "point_count" "point_count" sCount f fd) (mr : mg "range" = none) : FnOk P w K mg base CX0 (k + 1) f fd ["n"] spCount := by
  refine F.ok scCount (fun vs H Q E h => ?_) (fun cdv A outer s H vs Q E hr h => ?_)
  · obtain ⟨n, rfl, _⟩ := h
    rfl
  · obtain ⟨n, rfl, hn, q⟩ := h
    refine ⟨_, pss_cons (ps_set (i := 1) scCount.nd rfl (.inl rfl) pe_int)
      (pss_cons (ps_for PassesOwn.never rfl (pi_range1 (by rfl) mr (pa_cons (pv 0) pa_nil)) (pg_name (i := 2) scCount.nd rfl (.inl rfl))
        (pss_one (ps_set (i := 1) scCount.nd rfl (.inl rfl) (pe_op op_mul (pv 1) pe_int))))
      (pss_one (ps_ret (pv 1)))), ?_⟩
    refine ⟨_, rfl, (n : Int), rfl, by omega, by omega, ?_⟩
    refine for_range (lo := 0) (n := n) (fun i σ H' => ∃ v : Option V, σ = [some (.int n), some (.int ((3 ^ i : Nat) : Int)), v] ∧ H' = H) ⟨none, rfl, rfl⟩ ?_ ?_
    · rintro i σ H' hi ⟨v, rfl, rfl⟩
      refine ⟨_, rfl, ((3 ^ i : Nat) : Int), 3, rfl, rfl, pow_mul (by omega), some (.int (0 + i)), ?_, rfl⟩
      rw [← Kz.turn_pow]
      rfl
    · rintro σ H' ⟨v, rfl, rfl⟩
      exact ⟨_, rfl, q⟩
/-! ### is_set -/
def spSet (K : PySem.W.Frag) : Sp := fun vs H Q _ => ∃ (n : Nat) (a : Addr) (l : List Nat), vs = [.int n, .ref a] ∧ n ≤ 4 ∧ SqL K H a (nV l) ∧ Q (.bl (Kzt3.okSet n l)) H
theorem scSet : FnScope ["n", "s", "count", "lowest", "point"] ["n", "s"] (defScope sSet) := ⟨rfl, rfl, rfl, by decide +kernel, rfl, by decide +kernel, by decide +kernel⟩
theorem ok_set {f fC : Addr} {fd fdC : FuncData} {k : Nat} (F : Fun K "is_set" "is_set" sSet f fd) (GC : FnOk P w K mg base CX0 (k + 1) fC fdC ["n"] spCount) (gC : mg "point_count" = some (.ref fC)) (kC : PySem.W.keepIn K (.ref fC) = true) (bC : Binds K fdC ["n"] []) :
    FnOk P w K mg base CX0 (k + 2) f fd ["n", "s"] (spSet K) := by
  refine F.ok scSet (fun vs H Q E h => ?_) (fun cdv A outer s H vs Q E hr h => ?_)
  · obtain ⟨n, a, l, rfl, _⟩ := h
    rfl
  · obtain ⟨n, a, l, rfl, hn, hS, q⟩ := h
    refine ⟨_, pss_cons (ps_set (i := 2) scSet.nd rfl (.inl rfl) (pe_call GC hr (by rfl) gC kC bC .nil pass0 (pa_cons (pv 0) pa_nil)))
      (pss_cons (ps_set (i := 3) scSet.nd rfl (.inl rfl) pe_int)
      (pss_cons (ps_for PassesOwn.never rfl (pi_list (pv 1)) (pg_name (i := 4) scSet.nd rfl (.inl rfl))
        (pss_cons (ps_if (PW.pt (pw_or (pt_cmp (pc_lt (pv 4) (pv 3))) (pw_or1 (pt_cmp (pc_ge (pv 4) (pv 2)))))) (pss_one (ps_ret pe_bl)) pss_nil)
        (pss_one (ps_set (i := 3) scSet.nd rfl (.inl rfl) (pe_op op_add (pv 4) pe_int)))))
      (pss_one (ps_ret pe_bl)))), ?_⟩
    rw [← Kz.chk_set] at q
    refine ⟨_, rfl, n, rfl, hn, ?_⟩
    refine ⟨_, rfl, a, rfl, ⟨_, hS⟩, for_list (K := K) (a := a) (xs := nV l) (fun i σ H' => ∃ (v : Option V) (lo : Nat), σ = [some (.int n), some (.ref a), some (.int ((3 ^ n : Nat) : Int)), some (.int (lo : Int)), v] ∧ H' = H ∧ Kz.chk (3 ^ n) 0 l = Kz.chk (3 ^ n) lo (l.drop i))
      ⟨none, 0, rfl, rfl, rfl⟩ (fun i σ H' _ ⟨_, _, _, e, _⟩ => e ▸ hS) ?_ ?_⟩
    · rintro i y σ H' hi ⟨v, lo, rfl, rfl, ec⟩
      obtain ⟨z, hz, rfl⟩ := nV_get hi
      rw [Kz.drop_more hz, Kz.chk_cons] at ec
      refine ⟨_, rfl, _, rfl, z, lo, rfl, rfl, _, rfl, ?_⟩
      by_cases c1 : z < lo
      · refine if_t (decide_eq_true (Int.ofNat_lt.mpr c1)) (if_t rfl ?_)
        rw [ec, if_pos (.inl c1)] at q
        exact q
      · refine if_f (decide_eq_false fun c => c1 (Int.ofNat_lt.mp c)) ?_
        refine ⟨_, rfl, _, rfl, z, ((3 ^ n : Nat) : Int), rfl, rfl, _, rfl, ?_⟩
        by_cases c2 : 3 ^ n ≤ z
        · refine if_t (decide_eq_true (Int.ofNat_le.mpr c2)) ?_
          rw [ec, if_pos (.inr c2)] at q
          exact q
        · refine if_f (decide_eq_false fun c => c2 (Int.ofNat_le.mp c)) ?_
          rw [if_neg (by omega)] at ec
          exact ⟨_, rfl, z, 1, rfl, rfl, _, z + 1, rfl, rfl, ec⟩
    · rintro σ H' ⟨v, lo, rfl, rfl, ec⟩
      rw [nV_len, List.drop_length, Kz.chk_nil] at ec
      rw [ec] at q
      exact q
/-! ### numbers_of -/
theorem big_line {n : Nat} (h : n ≤ 100000) : n < sizeLine := Nat.lt_of_le_of_lt h (by decide)
/-- the numbers of a point -/
def digs (n x : Nat) : List Nat := (List.range n).map fun i => x / 3 ^ i % 3
theorem digs_succ (n x : Nat) : digs (n + 1) x = digs n x ++ [x / 3 ^ n % 3] := by
  unfold digs
  rw [List.range_succ, List.map_append]
  rfl
theorem digs_len (n x : Nat) : (digs n x).length = n := by
  unfold digs
  rw [List.length_map, List.length_range]
theorem digs_get {n x j : Nat} (h : j < n) : (digs n x)[j]? = some (x / 3 ^ j % 3) := by
  unfold digs
  rw [List.getElem?_map, List.getElem?_range h]
  rfl
theorem nV_one (l : List Nat) (i : Nat) : nV l ++ [.int (i : Int)] = nV (l ++ [i]) := by
  unfold nV
  rw [List.map_append]
  rfl
theorem turn_rest (x i : Nat) : x / 3 ^ i / 3 = x / 3 ^ (i + 1) := by rw [Nat.div_div_eq_div_mul, Nat.pow_succ]
def spNums : Sp := fun vs H Q _ => ∃ n x : Nat, vs = [.int n, .int x] ∧ n ≤ 4 ∧ ∀ (H' : Hp) (p : Addr), Same H H' → H' p = some (.lst (nV (digs n x))) → Q (.ref p) H'
theorem scNums : FnScope ["n", "point", "numbers", "rest", "i"] ["n", "point"] (defScope sNums) := ⟨rfl, rfl, rfl, by decide +kernel, rfl, by decide +kernel, by decide +kernel⟩
theorem ok_nums {f : Addr} {fd : FuncData} {k : Nat} (F : Fun K "numbers_of" "numbers_of" sNums f fd) (mr : mg "range" = none) : FnOk P w K mg base CX0 (k + 1) f fd ["n", "point"] spNums := by
  refine F.ok scNums (fun vs H Q E h => ?_) (fun cdv A outer s H vs Q E hr h => ?_)
  · obtain ⟨n, x, rfl, _⟩ := h
    rfl
  · obtain ⟨n, x, rfl, hn, q⟩ := h
    refine ⟨_, pss_cons (ps_set (i := 2) scNums.nd rfl (.inl rfl) (pe_lst pa_nil))
      (pss_cons (ps_set (i := 3) scNums.nd rfl (.inl rfl) (pv 1))
      (pss_cons (ps_for PassesOwn.never rfl (pi_range1 (by rfl) mr (pa_cons (pv 0) pa_nil)) (pg_name (i := 4) scNums.nd rfl (.inl rfl))
        (pss_cons (ps_expr (pe_bm PySem.F.plainAttrs_list PySem.F.slot_list_append PySem.F.type_list_append mt_append (pv 2) (pa_cons (pe_op op_mod (pv 3) pe_int) pa_nil)))
        (pss_one (ps_set (i := 3) scNums.nd rfl (.inl rfl) (pe_op op_fdiv (pv 3) pe_int)))))
      (pss_one (ps_ret (pv 2))))), ?_⟩
    refine ⟨Nat.zero_le _, fun o ho => ?_⟩
    refine ⟨_, rfl, ?_⟩
    refine ⟨_, rfl, (n : Int), rfl, by omega, by omega, ?_⟩
    refine for_range (lo := 0) (n := n) (fun i σ H' => ∃ v : Option V, σ = [some (.int n), some (.int x), some (.ref o), some (.int ((x / 3 ^ i : Nat) : Int)), v] ∧ Same H H' ∧ H' o = some (.lst (nV (digs i x)))) ⟨none, ?_, same_upd ho, upd_same⟩ ?_ ?_
    · rw [Nat.pow_zero, Nat.div_one]
      rfl
    · rintro i σ H' hi ⟨v, rfl, s5, eo⟩
      have h3 : (0 : Int) < 3 := by decide
      refine ⟨_, rfl, .inl ⟨rfl, _, SqL.of eo⟩, _, rfl, ((x / 3 ^ i : Nat) : Int), 3, rfl, rfl, h3, o, _, _, rfl, rfl, eo, ?_, ?_⟩
      · rw [nV_len, digs_len]
        exact big_line (by omega)
      · refine ⟨_, rfl, ((x / 3 ^ i : Nat) : Int), 3, rfl, rfl, ⟨by decide, by decide⟩, some (.int (0 + i)), ?_, fun b u e => ?_, ?_⟩
        · rw [← turn_rest]
          rfl
        · rw [upd_ne (ne_of_none e ho)]
          exact s5 b u e
        · rw [upd_same, digs_succ, ← nV_one]
          rfl
    · rintro σ H' ⟨v, rfl, s5, eo⟩
      exact ⟨_, rfl, q H' o s5 eo⟩
/-! ### point_of -/
/-- the point that has these numbers -/
def hrn (l : List Nat) : Nat := l.foldr (fun d p => p * 3 + d) 0
theorem hrn_cons (d : Nat) (l : List Nat) : hrn (d :: l) = hrn l * 3 + d := rfl
theorem hrn_snoc : ∀ (l : List Nat) (d : Nat), hrn (l ++ [d]) = hrn l + d * 3 ^ l.length
  | [], d => by
    show 0 * 3 + d = 0 + d * 3 ^ 0
    rw [Nat.pow_zero]
    omega
  | c :: l, d => by
    rw [List.cons_append, hrn_cons, hrn_cons, hrn_snoc l d, List.length_cons, Nat.pow_succ, Nat.add_mul, Nat.mul_assoc, Nat.add_right_comm]
theorem hrn_moved (q m a : List Nat) (x : Nat) : ∀ n : Nat, hrn ((List.range n).map (Kz.mdig q m a x)) = Kzt3.movedPoint n q m a x
  | 0 => rfl
  | n + 1 => by rw [List.range_succ, List.map_append, List.map_cons, List.map_nil, hrn_snoc, hrn_moved q m a x n, List.length_map, List.length_range, Kz.mv_succ]
def spOf (K : PySem.W.Frag) : Sp := fun vs H Q _ => ∃ (a : Addr) (l : List Nat), vs = [.ref a] ∧ SqL K H a (nV l) ∧ Q (.int ((hrn l : Nat) : Int)) H
theorem scOf : FnScope ["numbers", "point", "number"] ["numbers"] (defScope sOf) := ⟨rfl, rfl, rfl, by decide +kernel, rfl, by decide +kernel, by decide +kernel⟩
theorem ok_of {f : Addr} {fd : FuncData} {k : Nat} (F : Fun K "point_of" "point_of" sOf f fd) (mv : mg "reversed" = none) : FnOk P w K mg base CX0 (k + 1) f fd ["numbers"] (spOf K) := by
  refine F.ok scOf (fun vs H Q E h => ?_) (fun cdv A outer s H vs Q E hr h => ?_)
  · obtain ⟨a, l, rfl, _⟩ := h
    rfl
  · obtain ⟨a, l, rfl, hS, q⟩ := h
    refine ⟨_, pss_cons (ps_set (i := 1) scOf.nd rfl (.inl rfl) pe_int)
      (pss_cons (ps_for PassesOwn.never rfl (pi_reversed (by rfl) mv (pa_cons (pv 0) pa_nil)) (pg_name (i := 2) scOf.nd rfl (.inl rfl))
        (pss_one (ps_set (i := 1) scOf.nd rfl (.inl rfl) (pe_op op_add (pe_op op_mul (pv 1) pe_int) (pv 2)))))
      (pss_one (ps_ret (pv 1)))), ?_⟩
    refine ⟨_, rfl, a, nV l, rfl, hS, ?_⟩
    refine for_it walk_rev (fun i σ H' => ∃ v : Option V, σ = [some (.ref a), some (.int ((hrn (l.drop (l.length - i)) : Nat) : Int)), v] ∧ H' = H) ⟨none, ?_, rfl⟩ (fun i σ H' _ ⟨_, _, e⟩ => e ▸ hS) ?_ ?_
    · rw [Nat.sub_zero, List.drop_length]
      rfl
    · rintro i y σ H' H2 hi ⟨v, rfl, rfl⟩ ⟨rfl, hy⟩
      rw [nV_len] at hi hy
      obtain ⟨z, hz, rfl⟩ := nV_get hy
      refine ⟨_, rfl, ((hrn (l.drop (l.length - i)) : Nat) : Int), 3, rfl, rfl, .inr ⟨by decide, by decide⟩, _, rfl, _, (z : Int), rfl, rfl, some (.int z), ?_, rfl⟩
      have e2 : l.drop (l.length - (i + 1)) = z :: l.drop (l.length - i) := by
        rw [show l.length - (i + 1) = l.length - 1 - i by omega, Kz.drop_more hz, show l.length - 1 - i + 1 = l.length - i by omega]
      rw [e2, hrn_cons]
      rfl
    · rintro σ H' ⟨v, rfl, rfl⟩
      rw [nV_len, Nat.sub_self, List.drop_zero]
      exact ⟨_, rfl, q⟩
/-! ### is_order -/
def dI (ns : List Int) : List PyData := ns.map PyData.int
theorem dp_ints {H : Hp} : ∀ ns : List Int, DpAll K H (ns.map V.int) (dI ns)
  | [] => .nil
  | n :: ns => .cons (.int n) (dp_ints ns)
theorem eqv_ints : ∀ xs ys : List Int, PyData.eqvAll (dI xs) (dI ys) = decide (xs = ys)
  | [], [] => rfl
  | [], _ :: _ => rfl
  | _ :: _, [] => rfl
  | x :: xs, y :: ys => by
    have ih := eqv_ints xs ys
    show PyData.eqvAll (.int x :: dI xs) (.int y :: dI ys) = _
    rw [PyData.eqvAll, PyData.eqv, ih, Bool.eq_iff_iff, Bool.and_eq_true, beq_iff_eq, decide_eq_true_iff, decide_eq_true_iff, List.cons.injEq]
theorem lay_ints : ∀ ns : List Int, PyData.canLayAll0 (dI ns) = true
  | [] => rfl
  | n :: ns => by
    show PyData.canLayAll0 (.int n :: dI ns) = true
    rw [PyData.canLayAll0, lay_ints ns]
    rfl
theorem deep_ints : ∀ ns : List Int, PyData.depthAll (dI ns) = 0
  | [] => rfl
  | n :: ns => by
    show PyData.depthAll (.int n :: dI ns) = 0
    rw [PyData.depthAll, deep_ints ns]
    rfl
theorem shaped_ints (ns : List Int) : SeqAt.shaped (.list (dI ns)) = true := by
  unfold SeqAt.shaped
  rw [PyData.canLay0, PyData.depth, lay_ints, deep_ints]
  rfl
theorem rg_up (n : Nat) : rgV 0 (n : Int) = (Kz.up (List.range n)).map V.int := by
  unfold rgV Kz.up
  rw [Int.sub_zero, Int.toNat_natCast, List.map_map]
  exact List.map_congr_left fun i _ => by rw [Int.zero_add]; rfl
theorem pair_range (n : Nat) : (List.range n).Pairwise (· < ·) := List.pairwise_lt_range
/-- sorted it is 0 to n - 1 just if it is these in some order -/
theorem order_is {ns : List Int} {n : Nat} {l : List Nat} (h1 : ns.Perm (Kz.up l)) (h2 : ns.Pairwise (· ≤ ·)) : decide (ns = Kz.up (List.range n)) = Kzt3.okPerm n l := by
  rw [Bool.eq_iff_iff, decide_eq_true_iff, Kz.okPerm_iff]
  constructor
  · intro e
    rw [e] at h1
    have z := (h1.map Int.toNat).symm
    unfold Kz.up at z
    rw [List.map_map, List.map_map] at z
    have e1 : ∀ l : List Nat, l.map (Int.toNat ∘ fun (x : Nat) => (x : Int)) = l := fun l => Eq.trans (List.map_congr_left fun _ _ => rfl) (List.map_id l)
    rwa [e1, e1] at z
  · intro p
    exact Kz.sort_up h1 h2 p (pair_range n)
def spOrder (K : PySem.W.Frag) : Sp := fun vs H Q _ => ∃ (n : Nat) (a : Addr) (l : List Nat), vs = [.int n, .ref a] ∧ n ≤ 4 ∧ SqL K H a (nV l) ∧ ∀ H' : Hp, Same H H' → Q (.bl (Kzt3.okPerm n l)) H'
theorem scOrder : FnScope ["n", "q"] ["n", "q"] (defScope sOrder) := ⟨rfl, rfl, rfl, by decide +kernel, rfl, by decide +kernel, by decide +kernel⟩
theorem ok_order {f : Addr} {fd : FuncData} {k : Nat} (F : Fun K "is_order" "is_order" sOrder f fd) (mr : mg "range" = none) (mL : mg "list" = none) (mS : mg "sorted" = none) : FnOk P w K mg base CX0 (k + 1) f fd ["n", "q"] (spOrder K) := by
  refine F.ok scOrder (fun vs H Q E h => ?_) (fun cdv A outer s H vs Q E hr h => ?_)
  · obtain ⟨n, a, l, rfl, _⟩ := h
    rfl
  · obtain ⟨n, a, l, rfl, hn, hS, q⟩ := h
    refine ⟨_, pss_one (ps_ret (pe_cmpR (op_eqD hr.units) (pe_callB cr_sortedI (by rfl) mS (by decide +kernel) (pa_cons (pv 1) pa_nil)) (pe_listRg rfl (by rfl) mL (prg_1 (by rfl) mr (pv 0))) (nomark _))), ?_⟩
    rw [← nV_ints] at hS
    refine ⟨_, rfl, a, Kz.up l, rfl, hS, fun ns p h1 h2 h3 => ?_⟩
    refine ⟨_, rfl, (n : Int), rfl, RgOk.of_le (by omega) (by omega) (by omega) (by omega), fun r nr => ?_⟩
    refine ⟨.list (dI ns), .list (dI (Kz.up (List.range n))), .lst (SqL.of (same_upd nr p _ upd_same)) (dp_ints _), .lst (SqL.of (Eq.trans upd_same (by rw [rg_up]))) (dp_ints _), shaped_ints _, shaped_ints _, ?_⟩
    rw [PyData.eqv, eqv_ints, order_is h1 h2]
    exact q _ ((same_upd h3).trans (same_upd nr))
/-! ### is_row -/
def fit (lo y : Nat) : Bool := decide (lo ≤ y) && decide (y ≤ 2)
def rowOk (n lo : Nat) (l : List Nat) : Bool := decide (l.length = n) && l.all (fit lo)
def spRow (K : PySem.W.Frag) : Sp := fun vs H Q _ => ∃ (n : Nat) (a : Addr) (l : List Nat) (lo : Nat), vs = [.int n, .ref a, .int lo] ∧ SqL K H a (nV l) ∧ l.length ≤ 100 ∧ ∀ H' : Hp, Same H H' → Q (.bl (rowOk n lo l)) H'
theorem scRow : FnScope ["n", "row", "lowest", "number"] ["n", "row", "lowest"] (defScope sRow) := ⟨rfl, rfl, rfl, by decide +kernel, rfl, by decide +kernel, by decide +kernel⟩
theorem ok_row {f : Addr} {fd : FuncData} {k : Nat} (F : Fun K "is_row" "is_row" sRow f fd) (ml : mg "len" = none) (mA : mg "all" = none) : FnOk P w K mg base CX0 (k + 1) f fd ["n", "row", "lowest"] (spRow K) := by
  refine F.ok scRow (fun vs H Q E h => ?_) (fun cdv A outer s H vs Q E hr h => ?_)
  · obtain ⟨n, a, l, lo, rfl, _⟩ := h
    rfl
  · obtain ⟨n, a, l, lo, rfl, hS, hl, q⟩ := h
    refine ⟨_, pss_one (ps_ret (pe_and (pe_cmp (pc_eqI (pe_callB call_len_seq (by rfl) ml PySem.boot_len (pa_cons (pv 1) pa_nil)) (pv 0))) (pe_one (pe_callB (cr_all rfl) (by rfl) mA (by decide +kernel) (pa_cons (pe_lc (own := [("number", 3)]) (g := gName 3) (tt := tYes) (by rfl) scRow.nd (pi_list (pv 1))
      (blkOk_by (own := [("number", 3)]) (N := ["n", "row", "lowest", "number"]) (sc := defScope sRow) (by decide +kernel)) (fun _ _ _ _ _ => pg_name (i := 3) scRow.nd rfl (.inl rfl))
      (fun _ _ _ _ _ => pts_nil)
      (fun _ _ _ _ _ => pe_and (pe_cmp (pc_le (pv 2) (pv 3))) (pe_one (pe_cmp (pc_le (pv 3) pe_int))))) pa_nil))))), ?_⟩
    refine ⟨_, rfl, a, _, rfl, .inl hS, _, rfl, ((nV l).length : Int), n, rfl, rfl, _, rfl, ite2 (fun c => ?_) (fun c => ?_)⟩
    · have c1 : ((nV l).length : Int) = (n : Int) := of_decide_eq_true c
      rw [nV_len] at c1
      have c2 : l.length = n := by omega
      refine ⟨_, rfl, a, rfl, ⟨_, hS⟩, fun D hD => ?_⟩
      have s1 : Same H (upd H D (.lst [])) := same_upd hD
      refine lc_list (K := K) (a := a) (xs := nV l) (fun i H' => Same H H' ∧ H' D = some (.lst (((l.take i).map (fit lo)).map V.bl))) ⟨s1, ?_⟩ (fun i H' _ z => z.1.seq hS) ?_ ?_
      · rw [List.take_zero]
        exact upd_same
      · rintro i y H' hi ⟨s5, eD⟩
        obtain ⟨z, hz, rfl⟩ := nV_get hi
        have hfin : ∀ b : Bool, b = fit lo z → ∃ acc, H' D = some (.lst acc) ∧ acc.length < sizeLine ∧ (Same H (upd H' D (.lst (acc ++ [.bl b]))) ∧ (upd H' D (.lst (acc ++ [.bl b]))) D = some (.lst (((l.take (i + 1)).map (fit lo)).map V.bl))) := by
          intro b hb
          refine ⟨_, eD, ?_, fun b u e => ?_, ?_⟩
          · rw [List.length_map, List.length_map, List.length_take]
            exact big_line (by omega)
          · rw [upd_ne (ne_of_none e hD)]
            exact s5 b u e
          · rw [upd_same, Kz.take_more hz, List.map_append, List.map_append, hb]
            rfl
        refine ⟨rfl, _, rfl, _, rfl, lo, z, rfl, rfl, _, rfl, ite2 (fun d => ?_) (fun d => ?_)⟩
        · have d1 : (lo : Int) ≤ (z : Int) := of_decide_eq_true d
          refine ⟨_, rfl, z, 2, rfl, rfl, ?_⟩
          refine hfin _ ?_
          unfold fit
          rw [decide_eq_true (show lo ≤ z by omega), Bool.true_and]
          exact decide_eq_decide.mpr (by omega)
        · have d1 : ¬ (lo : Int) ≤ (z : Int) := fun x => d (decide_eq_true x)
          refine hfin _ ?_
          unfold fit
          rw [decide_eq_false (show ¬ lo ≤ z by omega), Bool.false_and]
      · rintro H' ⟨s5, eD⟩
        rw [nV_len, List.take_length] at eD
        refine ⟨D, l.map (fit lo), rfl, SqL.of eD, ?_⟩
        have e : (l.map (fit lo)).all id = rowOk n lo l := by
          unfold rowOk
          rw [decide_eq_true c2, Bool.true_and, List.all_map]
          rfl
        rw [e]
        exact q H' s5
    · have c1 : ¬ ((nV l).length : Int) = (n : Int) := fun x => c (decide_eq_true x)
      rw [nV_len] at c1
      have e : rowOk n lo l = false := by
        unfold rowOk
        rw [decide_eq_false (by omega), Bool.false_and]
      have q0 := q H fun _ _ e => e
      rw [e] at q0
      exact q0
/-! ### moved_point -/
theorem at_nV {l : List Nat} {i : Nat} {z : Nat} (h : l[i]? = some z) : atI (nV l) (i : Int) = some (.int (z : Int)) := by
  refine atI_nat ?_
  unfold nV
  rw [List.getElem?_map, h]
  rfl
theorem mdig_at {q m a : List Nat} {i k u v : Nat} (x : Nat) (hq : q[i]? = some k) (hm : m[i]? = some u) (ha : a[i]? = some v) : Kz.mdig q m a x i = (x / 3 ^ k % 3 * u + v) % 3 := by
  unfold Kz.mdig
  rw [List.getD_eq_getElem?_getD, List.getD_eq_getElem?_getD, List.getD_eq_getElem?_getD, hq, hm, ha, Nat.mul_comm]
  rfl
def spMvp (K : PySem.W.Frag) : Sp := fun vs H Q _ => ∃ (n x : Nat) (aq am aa : Addr) (q m a : List Nat), vs = [.int n, .ref aq, .ref am, .ref aa, .int x] ∧ n ≤ 4 ∧ SqL K H aq (nV q) ∧ SqL K H am (nV m) ∧ SqL K H aa (nV a) ∧ q.length = n ∧ m.length = n ∧ a.length = n ∧ (∀ y ∈ q, y < n) ∧ ∀ H' : Hp, Same H H' → Q (.int ((Kzt3.movedPoint n q m a x : Nat) : Int)) H'
theorem scMvp : FnScope ["n", "q", "m", "a", "point", "numbers", "i"] ["n", "q", "m", "a", "point"] (defScope sMvp) := ⟨rfl, rfl, rfl, by decide +kernel, rfl, by decide +kernel, by decide +kernel⟩
theorem ok_mvp {f fN fO : Addr} {fd fdN fdO : FuncData} {k : Nat} (F : Fun K "moved_point" "moved_point" sMvp f fd) (GN : FnOk P w K mg base CX0 (k + 1) fN fdN ["n", "point"] spNums) (gN : mg "numbers_of" = some (.ref fN)) (kN : PySem.W.keepIn K (.ref fN) = true) (bN : Binds K fdN ["n", "point"] [])
    (GO : FnOk P w K mg base CX0 (k + 1) fO fdO ["numbers"] (spOf K)) (gO : mg "point_of" = some (.ref fO)) (kO : PySem.W.keepIn K (.ref fO) = true) (bO : Binds K fdO ["numbers"] []) (mr : mg "range" = none) :
    FnOk P w K mg base CX0 (k + 2) f fd ["n", "q", "m", "a", "point"] (spMvp K) := by
  refine F.ok scMvp (fun vs H Q E h => ?_) (fun cdv A outer s H vs Q E hr h => ?_)
  · obtain ⟨n, x, aq, am, aa, q, m, a, rfl, _⟩ := h
    rfl
  · obtain ⟨n, x, aq, am, aa, q, m, a, rfl, hn, hQ, hM, hA, lq, lm, la, hq, qq⟩ := h
    refine ⟨_, pss_cons (ps_set (i := 5) scMvp.nd rfl (.inr rfl) (pe_call GN hr (by rfl) gN kN bN .nil pass0 (pa_cons (pv 0) (pa_cons (pv 4) pa_nil))))
      (pss_one (ps_ret (pe_call GO hr (by rfl) gO kO bO .nil pass0 (pa_cons (pe_lc (own := [("i", 6)]) (g := gName 6) (tt := tYes) (by rfl) scMvp.nd (pi_range1 (by rfl) mr (pa_cons (pv 0) pa_nil))
      (blkOk_by (own := [("i", 6)]) (N := ["n", "q", "m", "a", "point", "numbers", "i"]) (sc := defScope sMvp) (by decide +kernel)) (fun _ _ _ _ _ => pg_name (i := 6) scMvp.nd rfl (.inl rfl))
      (fun _ _ _ _ _ => pts_nil)
      (fun _ _ _ _ _ => pe_op op_mod (pe_op op_add (pe_op op_mul (pe_ix (show IxR _ (rIxL K) from ix_list) (pv 5) (pe_ix (show IxR _ (rIxL K) from ix_list) (pv 1) (pv 6) (fun _ _ => rfl)) (fun _ _ => rfl)) (pe_ix (show IxR _ (rIxL K) from ix_list) (pv 2) (pv 6) (fun _ _ => rfl))) (pe_ix (show IxR _ (rIxL K) from ix_list) (pv 3) (pv 6) (fun _ _ => rfl))) pe_int)) pa_nil)))), ?_⟩
    refine ⟨_, rfl, _, rfl, n, x, rfl, hn, fun H1 o s1 eo => ?_⟩
    refine ⟨_, rfl, (n : Int), rfl, by omega, by omega, fun D hD => ?_⟩
    have s2 : Same H1 (upd H1 D (.lst [])) := same_upd hD
    refine lc_range (lo := 0) (n := n) (fun i H' => Same H1 H' ∧ H' D = some (.lst (nV ((List.range i).map (Kz.mdig q m a x))))) ⟨s2, upd_same⟩ ?_ ?_
    · rintro i H' hi ⟨s5, eD⟩
      have s6 := s1.trans s5
      obtain ⟨y, hy⟩ : ∃ y, q[i]? = some y := ⟨_, List.getElem?_eq_getElem (by omega)⟩
      obtain ⟨u, hu⟩ : ∃ y, m[i]? = some y := ⟨_, List.getElem?_eq_getElem (by omega)⟩
      obtain ⟨v, hv⟩ : ∃ y, a[i]? = some y := ⟨_, List.getElem?_eq_getElem (by omega)⟩
      have hyn := hq y (List.mem_of_getElem? hy)
      have h3 : (0 : Int) < 3 := by decide
      have hd : x / 3 ^ y % 3 < 3 := Nat.mod_lt _ (by decide)
      refine ⟨rfl, _, rfl, _, rfl, _, rfl, aq, nV q, (i : Int), .int (y : Int), rfl, (by rw [Int.zero_add]), s6.seq hQ, at_nV hy, ?_⟩
      refine ⟨o, nV (digs n x), (y : Int), .int ((x / 3 ^ y % 3 : Nat) : Int), rfl, rfl, SqL.of (s5 _ _ eo), at_nV (digs_get hyn), ?_⟩
      refine ⟨_, rfl, _, rfl, am, nV m, (i : Int), .int (u : Int), rfl, (by rw [Int.zero_add]), s6.seq hM, at_nV hu, ?_⟩
      refine ⟨((x / 3 ^ y % 3 : Nat) : Int), (u : Int), rfl, rfl, .inl ⟨by omega, by omega⟩, ?_⟩
      refine ⟨_, rfl, _, rfl, aa, nV a, (i : Int), .int (v : Int), rfl, (by rw [Int.zero_add]), s6.seq hA, at_nV hv, ?_⟩
      refine ⟨_, (v : Int), rfl, rfl, _, 3, rfl, rfl, h3, _, eD, ?_, fun b u e => ?_, ?_⟩
      · rw [nV_len, List.length_map, List.length_range]
        exact big_line (by omega)
      · rw [upd_ne (ne_of_none e hD)]
        exact s5 b u e
      · rw [upd_same, List.range_succ, List.map_append, List.map_cons, List.map_nil, ← nV_one, mdig_at x hy hu hv]
        rfl
    · rintro H' ⟨s5, eD⟩
      refine ⟨D, _, rfl, SqL.of eD, ?_⟩
      rw [hrn_moved]
      exact qq H' (s1.trans s5)
/-! ### answers over a set -/
theorem nats_up (l : List Nat) : Kzt3Neutral.natsOf (Kz.up l) = l := by
  unfold Kzt3Neutral.natsOf Kz.up
  rw [List.map_map]
  exact Eq.trans (List.map_congr_left fun _ _ => rfl) (List.map_id l)
theorem told_up (l : List Nat) : (Kzt3.told (Kzt3.ints l)).value :: (Kzt3.told (Kzt3.ints l)).nums = (l.length : Int) :: Kz.up l := by
  show (((Kzt3.ints l).length : Nat) : Int) :: Kzt3.ints l = _
  unfold Kzt3.ints Kz.up
  rw [List.length_map]
/-! ### moved -/
theorem row_iff {n lo : Nat} {l : List Nat} : rowOk n lo l = true ↔ l.length = n ∧ ∀ y ∈ l, lo ≤ y ∧ y ≤ 2 := by
  unfold rowOk fit
  rw [Bool.and_eq_true, decide_eq_true_iff, List.all_eq_true]
  refine and_congr_right fun _ => forall_congr' fun y => forall_congr' fun _ => ?_
  rw [Bool.and_eq_true, decide_eq_true_iff, decide_eq_true_iff]
theorem row_m {n : Nat} {m : List Nat} : rowOk n 1 m = true ↔ ¬ (m.length ≠ n ∨ (m.any fun x => x != 1 && x != 2) = true) := by
  rw [row_iff]
  constructor
  · rintro ⟨h1, h2⟩ (h | h)
    · exact h h1
    · obtain ⟨x, hx, hb⟩ := List.any_eq_true.mp h
      have h3 := h2 x hx
      rw [Bool.and_eq_true, bne_iff_ne, bne_iff_ne] at hb
      omega
  · intro h
    refine ⟨Decidable.byContradiction fun c => h (.inl c), fun y hy => Decidable.byContradiction fun c => h (.inr (List.any_eq_true.mpr ⟨y, hy, ?_⟩))⟩
    rw [Bool.and_eq_true, bne_iff_ne, bne_iff_ne]
    omega
theorem row_a {n : Nat} {a : List Nat} : rowOk n 0 a = true ↔ ¬ (a.length ≠ n ∨ (a.any fun x => decide (2 < x)) = true) := by
  rw [row_iff]
  constructor
  · rintro ⟨h1, h2⟩ (h | h)
    · exact h h1
    · obtain ⟨x, hx, hb⟩ := List.any_eq_true.mp h
      have h3 := h2 x hx
      have h4 := of_decide_eq_true hb
      omega
  · intro h
    refine ⟨Decidable.byContradiction fun c => h (.inl c), fun y hy => Decidable.byContradiction fun c => h (.inr (List.any_eq_true.mpr ⟨y, hy, decide_eq_true ?_⟩))⟩
    omega
theorem bad_iff {n : Nat} {q m a : List Nat} : (Kzt3.okPerm n q = false ∨ m.length ≠ n ∨ (m.any fun x => x != 1 && x != 2) = true ∨ a.length ≠ n ∨ (a.any fun x => decide (2 < x)) = true) ↔ ¬ (Kzt3.okPerm n q = true ∧ rowOk n 1 m = true ∧ rowOk n 0 a = true) := by
  rw [row_m, row_a]
  constructor
  · rintro (h | h | h | h | h) ⟨h1, h2, h3⟩
    · rw [h] at h1
      cases h1
    · exact h2 (.inl h)
    · exact h2 (.inr h)
    · exact h3 (.inl h)
    · exact h3 (.inr h)
  · intro h
    cases hq : Kzt3.okPerm n q with
    | false => exact .inl rfl
    | true =>
      by_cases c1 : m.length ≠ n
      · exact .inr (.inl c1)
      by_cases c2 : (m.any fun x => x != 1 && x != 2) = true
      · exact .inr (.inr (.inl c2))
      by_cases c3 : a.length ≠ n
      · exact .inr (.inr (.inr (.inl c3)))
      by_cases c4 : (a.any fun x => decide (2 < x)) = true
      · exact .inr (.inr (.inr (.inr c4)))
      exact absurd ⟨hq, fun z => z.elim c1 c2, fun z => z.elim c3 c4⟩ h
theorem ans_moved (n : Nat) (q m a l : List Nat) : PyKzt3.moved n (Kz.up q) (Kz.up m) (Kz.up a) (Kz.up l) = (Kzt3.answer (.moved n q m a l)).value :: (Kzt3.answer (.moved n q m a l)).nums := by
  show (Kzt3.answer (.moved n (Kzt3Neutral.natsOf (Kz.up q)) (Kzt3Neutral.natsOf (Kz.up m)) (Kzt3Neutral.natsOf (Kz.up a)) (Kzt3Neutral.natsOf (Kz.up l)))).value :: _ = _
  rw [nats_up, nats_up, nats_up, nats_up]
  rfl
theorem moved_22 {n : Nat} (q m a : List Nat) {l : List Nat} (h : Kzt3.okN n = false ∨ Kzt3.okSet n l = false) : PyKzt3.moved n (Kz.up q) (Kz.up m) (Kz.up a) (Kz.up l) = [-22] := by
  rw [ans_moved]
  unfold Kzt3.answer Kzt3.withSet
  dsimp only
  rw [if_pos h]
  rfl
theorem moved_bad {n : Nat} {q m a l : List Nat} (h1 : Kzt3.okN n = true) (h2 : Kzt3.okSet n l = true) (h : ¬ (Kzt3.okPerm n q = true ∧ rowOk n 1 m = true ∧ rowOk n 0 a = true)) : PyKzt3.moved n (Kz.up q) (Kz.up m) (Kz.up a) (Kz.up l) = [-22] := by
  rw [ans_moved]
  unfold Kzt3.answer Kzt3.withSet
  dsimp only
  rw [if_neg (by rw [h1, h2]; decide), if_pos (bad_iff.mpr h)]
  rfl
theorem moved_ok {n : Nat} {q m a l : List Nat} (h1 : Kzt3.okN n = true) (h2 : Kzt3.okSet n l = true) (h3 : Kzt3.okPerm n q = true) (h4 : rowOk n 1 m = true) (h5 : rowOk n 0 a = true) : PyKzt3.moved n (Kz.up q) (Kz.up m) (Kz.up a) (Kz.up l) = ((Kzt3.moved n q m a l).length : Int) :: Kz.up (Kzt3.moved n q m a l) := by
  rw [ans_moved]
  unfold Kzt3.answer Kzt3.withSet
  dsimp only
  rw [if_neg (by rw [h1, h2]; decide), if_neg fun z => bad_iff.mp z ⟨h3, h4, h5⟩, told_up]
def spMain (K : PySem.W.Frag) : Sp := fun vs H Q _ => ∃ (n : Nat) (aq am aa al : Addr) (q m a l : List Nat), vs = [.int n, .ref aq, .ref am, .ref aa, .ref al] ∧ SqL K H aq (nV q) ∧ SqL K H am (nV m) ∧ SqL K H aa (nV a) ∧ SqL K H al (nV l) ∧ m.length ≤ 100 ∧ a.length ≤ 100 ∧ l.length ≤ 100 ∧ ∀ (H' : Hp) (p : Addr), H' p = some (.lst ((PyKzt3.moved n (Kz.up q) (Kz.up m) (Kz.up a) (Kz.up l)).map V.int)) → Q (.ref p) H'
theorem scMain : FnScope ["n", "q", "m", "a", "s", "images", "point"] ["n", "q", "m", "a", "s"] (defScope sMain) := ⟨rfl, rfl, rfl, by decide +kernel, rfl, by decide +kernel, by decide +kernel⟩
theorem ok_main {f fH fS fO fR fM : Addr} {fd fdH fdS fdO fdR fdM : FuncData} {tU : Tok} (F : Fun K "moved" "moved" sMain f fd)
    (GH : FnOk P w K mg base CX0 2 fH fdH ["n"] spHas) (gH : mg "has_points" = some (.ref fH)) (kH : PySem.W.keepIn K (.ref fH) = true) (bH : Binds K fdH ["n"] [])
    (GS : FnOk P w K mg base CX0 2 fS fdS ["n", "s"] (spSet K)) (gS : mg "is_set" = some (.ref fS)) (kS : PySem.W.keepIn K (.ref fS) = true) (bS : Binds K fdS ["n", "s"] [])
    (GO : FnOk P w K mg base CX0 2 fO fdO ["n", "q"] (spOrder K)) (gO : mg "is_order" = some (.ref fO)) (kO : PySem.W.keepIn K (.ref fO) = true) (bO : Binds K fdO ["n", "q"] [])
    (GR : FnOk P w K mg base CX0 2 fR fdR ["n", "row", "lowest"] (spRow K)) (gR : mg "is_row" = some (.ref fR)) (kR : PySem.W.keepIn K (.ref fR) = true) (bR : Binds K fdR ["n", "row", "lowest"] [])
    (GM : FnOk P w K mg base CX0 2 fM fdM ["n", "q", "m", "a", "point"] (spMvp K)) (gM : mg "moved_point" = some (.ref fM)) (kM : PySem.W.keepIn K (.ref fM) = true) (bM : Binds K fdM ["n", "q", "m", "a", "point"] [])
    (mU : mg "UNFIT" = some (.int (-22) tU)) (ml : mg "len" = none) (mS : mg "sorted" = none) :
    FnOk P w K mg base CX0 3 f fd ["n", "q", "m", "a", "s"] (spMain K) := by
  refine F.ok scMain (fun vs H Q E h => ?_) (fun cdv A outer s H vs Q E hr h => ?_)
  · obtain ⟨n, aq, am, aa, al, q, m, a, l, rfl, _⟩ := h
    rfl
  · obtain ⟨n, aq, am, aa, al, q, m, a, l, rfl, hQ, hM, hA, hS, lm, la, hl, qq⟩ := h
    refine ⟨_, pss_cons (ps_if (PW.pt (pw_or (pt_not (pt_val (pe_call GH hr (by rfl) gH kH bH .nil pass0 (pa_cons (pv 0) pa_nil)))) (pw_or1 (pt_not (pt_val (pe_call GS hr (by rfl) gS kS bS .nil pass0 (pa_cons (pv 0) (pa_cons (pv 4) pa_nil))))))))
        (pss_one (ps_ret (pe_lst (pa_cons (pe_glob (v := .int (-22)) (by rfl) mU ⟨_, rfl⟩) pa_nil)))) pss_nil)
      (pss_cons (ps_if (PW.pt (pw_or (pt_not (pt_val (pe_call GO hr (by rfl) gO kO bO .nil pass0 (pa_cons (pv 0) (pa_cons (pv 1) pa_nil))))) (pw_or (pt_not (pt_val (pe_call GR hr (by rfl) gR kR bR .nil pass0 (pa_cons (pv 0) (pa_cons (pv 2) (pa_cons pe_int pa_nil)))))) (pw_or1 (pt_not (pt_val (pe_call GR hr (by rfl) gR kR bR .nil pass0 (pa_cons (pv 0) (pa_cons (pv 3) (pa_cons pe_int pa_nil))))))))))
        (pss_one (ps_ret (pe_lst (pa_cons (pe_glob (v := .int (-22)) (by rfl) mU ⟨_, rfl⟩) pa_nil)))) pss_nil)
      (pss_cons (ps_set (i := 5) scMain.nd rfl (.inl rfl) (pe_callB cr_sortedI (by rfl) mS (by decide +kernel) (pa_cons (pe_lc (own := [("point", 6)]) (g := gName 6) (tt := tYes) (by rfl) scMain.nd (pi_list (pv 4))
        (blkOk_by (own := [("point", 6)]) (N := ["n", "q", "m", "a", "s", "images", "point"]) (sc := defScope sMain) (by decide +kernel)) (fun _ _ _ _ _ => pg_name (i := 6) scMain.nd rfl (.inl rfl))
        (fun _ _ _ _ _ => pts_nil)
        (fun _ _ _ _ _ => pe_call GM hr (by rfl) gM kM bM .nil pass0 (pa_cons (pv 0) (pa_cons (pv 1) (pa_cons (pv 2) (pa_cons (pv 3) (pa_cons (pv 6) pa_nil))))))) pa_nil)))
      (pss_one (ps_ret (pe_op op_cat (pe_lst (pa_cons (pe_callB call_len_seq (by rfl) ml PySem.boot_len (pa_cons (pv 5) pa_nil)) pa_nil)) (pv 5)))))), ?_⟩
    have one : 1 ≤ sizeLine := by decide
    refine ⟨_, rfl, n, rfl, _, rfl, ?_⟩
    cases hN : Kzt3.okN n with
    | false =>
      refine iteT (iteT ⟨one, fun p hp => qq _ p ?_⟩)
      rw [moved_22 q m a (.inl hN)]
      exact upd_same
    | true =>
      refine iteF ?_
      have hn := okN_le hN
      refine ⟨_, rfl, _, rfl, n, al, l, rfl, hn, hS, _, rfl, ?_⟩
      cases hK : Kzt3.okSet n l with
      | false =>
        refine iteT ⟨one, fun p hp => qq _ p ?_⟩
        rw [moved_22 q m a (.inr hK)]
        exact upd_same
      | true =>
        refine iteF ?_
        refine ⟨_, rfl, _, rfl, n, aq, q, rfl, hn, hQ, fun H1 s1 => ⟨_, rfl, ?_⟩⟩
        cases hP : Kzt3.okPerm n q with
        | false =>
          refine iteT (iteT ⟨one, fun p hp => qq _ p ?_⟩)
          rw [moved_bad hN hK fun z => by rw [hP] at z; cases z.1]
          exact upd_same
        | true =>
          refine iteF ?_
          refine ⟨_, rfl, _, rfl, n, am, m, 1, rfl, s1.seq hM, lm, fun H2 s2 => ⟨_, rfl, ?_⟩⟩
          cases hRm : rowOk n 1 m with
          | false =>
            refine iteT (iteT ⟨one, fun p hp => qq _ p ?_⟩)
            rw [moved_bad hN hK fun z => by rw [hRm] at z; cases z.2.1]
            exact upd_same
          | true =>
            refine iteF ?_
            refine ⟨_, rfl, _, rfl, n, aa, a, 0, rfl, (s1.trans s2).seq hA, la, fun H3 s3 => ⟨_, rfl, ?_⟩⟩
            cases hRa : rowOk n 0 a with
            | false =>
              refine iteT ⟨one, fun p hp => qq _ p ?_⟩
              rw [moved_bad hN hK fun z => by rw [hRa] at z; cases z.2.2]
              exact upd_same
            | true =>
              refine iteF ?_
              have s4 := (s1.trans s2).trans s3
              have pq := Kz.okPerm_iff.mp hP
              have bm := row_iff.mp hRm
              have ba := row_iff.mp hRa
              have bq : ∀ y ∈ q, y < n := fun y hy => List.mem_range.mp (pq.mem_iff.mp hy)
              have lq : q.length = n := by rw [pq.length_eq, List.length_range]
              have hm : ∀ i, i < n → m.getD i 1 = 1 ∨ m.getD i 1 = 2 := fun i hi => by
                have e : m[i]? = some m[i] := List.getElem?_eq_getElem (by omega)
                have z := bm.2 _ (List.mem_of_getElem? e)
                rw [List.getD_eq_getElem?_getD, e]
                show m[i] = 1 ∨ m[i] = 2
                omega
              refine ⟨_, rfl, al, rfl, ⟨_, s4.seq hS⟩, fun D hD => ?_⟩
              have s5 : Same H3 (upd H3 D (.lst [])) := same_upd hD
              refine lc_list (K := K) (a := al) (xs := nV l) (fun i H' => Same H3 H' ∧ H' D = some (.lst (nV ((l.take i).map (Kzt3.movedPoint n q m a))))) ⟨s5, ?_⟩ (fun i H' _ z => (s4.trans z.1).seq hS) ?_ ?_
              · rw [List.take_zero]
                exact upd_same
              · rintro i y H' hi ⟨s6, eD⟩
                obtain ⟨z, hz, rfl⟩ := nV_get hi
                have s7 := s4.trans s6
                refine ⟨rfl, _, rfl, _, rfl, _, rfl, _, rfl, _, rfl, n, z, aq, am, aa, q, m, a, rfl, hn, s7.seq hQ, s7.seq hM, s7.seq hA, lq, bm.1, ba.1, bq, fun H4 s8 => ?_⟩
                refine ⟨_, s8 _ _ eD, ?_, fun b u e => ?_, ?_⟩
                · rw [nV_len, List.length_map, List.length_take]
                  exact big_line (by omega)
                · rw [upd_ne (ne_of_none e hD)]
                  exact s8 _ _ (s6 b u e)
                · rw [upd_same, Kz.take_more hz, List.map_append, List.map_cons, List.map_nil, ← nV_one]
              · rintro H' ⟨s6, eD⟩
                rw [nV_len, List.take_length, ← nV_ints] at eD
                refine ⟨D, _, rfl, SqL.of eD, fun ns o h1 h2 no => ?_⟩
                have e := Kz.sort_up h1 h2 (Kz.moved_perm hP hm (Kz.ok_pair hK) (Kz.ok_lt hK)).symm (Kz.moved_pair n q m a l)
                subst e
                rw [nV_ints]
                have hlen := Kz.moved_len (a := a) hP hm (Kz.ok_pair hK) (Kz.ok_lt hK)
                refine ⟨_, rfl, o, _, rfl, .inl (SqL.of upd_same), one, fun r nr => ?_⟩
                have s9 := same_upd (o := .lst [.int ((nV (Kzt3.moved n q m a l)).length : Nat)]) nr
                refine ⟨_, rfl, r, o, _, _, rfl, rfl, upd_same, s9 _ _ upd_same, ?_, fun p hp => qq _ p ?_⟩
                · rw [nV_len]
                  show 1 + _ ≤ sizeLine
                  exact Nat.le_of_lt (big_line (by omega))
                · rw [upd_same, moved_ok hN hK hP hRm hRa, List.map_cons, nV_ints, nV_len]
                  rfl
end
/-! ### what the top has written -/
theorem all_mk {P : Program} {w : World} {K : PySem.W.Frag} {h : Heap} {mg : Str → Option Value} {fa f0 f1 f2 f3 f4 f5 f6 f7 f8 : Addr} (X : K.In h) (G : h.Ns mainGlobals mg) (hfa : mg "moved" = some (.ref fa))
    {od0 an0 od1 an1 od2 an2 od3 an3 od4 an4 od5 an5 od6 an6 od7 an7 od8 an8 : Option Addr} {sl0 sl1 sl2 sl3 sl4 sl5 sl6 sl7 sl8 : Array (Option Value)} {oc0 kV0 dc0 pm0 cd0 ct0 oc1 kV1 dc1 pm1 cd1 ct1 oc2 kV2 dc2 pm2 cd2 ct2 oc3 kV3 dc3 pm3 cd3 ct3 oc4 kV4 dc4 pm4 cd4 ct4 oc5 kV5 dc5 pm5 cd5 ct5 oc6 kV6 dc6 pm6 cd6 ct6 oc7 kV7 dc7 pm7 cd7 ct7 oc8 kV8 dc8 pm8 cd8 ct8 : Value}
    {t0 t1 : Tok}
    (a0 : PySem.W.nsIn K mainGlobals "has_points" = some (some (.ref f0))) (l0 : K.lookup f0 = some ⟨oc0, od0, .func (PySem.W.fnOf "has_points" "has_points" (defArgs sHas) (defBody sHas) (defScope sHas) .none kV0 dc0 pm0 an0 cd0 ct0), sl0⟩) (c0 : PySem.W.codeIn K cd0 "has_points" = true) (k0 : PySem.W.keepIn K (.ref f0) = true)
    (a1 : PySem.W.nsIn K mainGlobals "point_count" = some (some (.ref f1))) (l1 : K.lookup f1 = some ⟨oc1, od1, .func (PySem.W.fnOf "point_count" "point_count" (defArgs sCount) (defBody sCount) (defScope sCount) .none kV1 dc1 pm1 an1 cd1 ct1), sl1⟩) (c1 : PySem.W.codeIn K cd1 "point_count" = true) (k1 : PySem.W.keepIn K (.ref f1) = true)
    (a2 : PySem.W.nsIn K mainGlobals "numbers_of" = some (some (.ref f2))) (l2 : K.lookup f2 = some ⟨oc2, od2, .func (PySem.W.fnOf "numbers_of" "numbers_of" (defArgs sNums) (defBody sNums) (defScope sNums) .none kV2 dc2 pm2 an2 cd2 ct2), sl2⟩) (c2 : PySem.W.codeIn K cd2 "numbers_of" = true) (k2 : PySem.W.keepIn K (.ref f2) = true)
    (a3 : PySem.W.nsIn K mainGlobals "point_of" = some (some (.ref f3))) (l3 : K.lookup f3 = some ⟨oc3, od3, .func (PySem.W.fnOf "point_of" "point_of" (defArgs sOf) (defBody sOf) (defScope sOf) .none kV3 dc3 pm3 an3 cd3 ct3), sl3⟩) (c3 : PySem.W.codeIn K cd3 "point_of" = true) (k3 : PySem.W.keepIn K (.ref f3) = true)
    (a4 : PySem.W.nsIn K mainGlobals "is_set" = some (some (.ref f4))) (l4 : K.lookup f4 = some ⟨oc4, od4, .func (PySem.W.fnOf "is_set" "is_set" (defArgs sSet) (defBody sSet) (defScope sSet) .none kV4 dc4 pm4 an4 cd4 ct4), sl4⟩) (c4 : PySem.W.codeIn K cd4 "is_set" = true) (k4 : PySem.W.keepIn K (.ref f4) = true)
    (a5 : PySem.W.nsIn K mainGlobals "is_order" = some (some (.ref f5))) (l5 : K.lookup f5 = some ⟨oc5, od5, .func (PySem.W.fnOf "is_order" "is_order" (defArgs sOrder) (defBody sOrder) (defScope sOrder) .none kV5 dc5 pm5 an5 cd5 ct5), sl5⟩) (c5 : PySem.W.codeIn K cd5 "is_order" = true) (k5 : PySem.W.keepIn K (.ref f5) = true)
    (a6 : PySem.W.nsIn K mainGlobals "is_row" = some (some (.ref f6))) (l6 : K.lookup f6 = some ⟨oc6, od6, .func (PySem.W.fnOf "is_row" "is_row" (defArgs sRow) (defBody sRow) (defScope sRow) .none kV6 dc6 pm6 an6 cd6 ct6), sl6⟩) (c6 : PySem.W.codeIn K cd6 "is_row" = true) (k6 : PySem.W.keepIn K (.ref f6) = true)
    (a7 : PySem.W.nsIn K mainGlobals "moved_point" = some (some (.ref f7))) (l7 : K.lookup f7 = some ⟨oc7, od7, .func (PySem.W.fnOf "moved_point" "moved_point" (defArgs sMvp) (defBody sMvp) (defScope sMvp) .none kV7 dc7 pm7 an7 cd7 ct7), sl7⟩) (c7 : PySem.W.codeIn K cd7 "moved_point" = true) (k7 : PySem.W.keepIn K (.ref f7) = true)
    (a8 : PySem.W.nsIn K mainGlobals "moved" = some (some (.ref f8))) (l8 : K.lookup f8 = some ⟨oc8, od8, .func (PySem.W.fnOf "moved" "moved" (defArgs sMain) (defBody sMain) (defScope sMain) .none kV8 dc8 pm8 an8 cd8 ct8), sl8⟩) (c8 : PySem.W.codeIn K cd8 "moved" = true) (k8 : PySem.W.keepIn K (.ref f8) = true)
    (u0 : PySem.W.nsIn K mainGlobals "UNFIT" = some (some (.int (-22) t0)))
    (u1 : PySem.W.nsIn K mainGlobals "MOST_NUMBERS" = some (some (.int (4) t1)))
    (z0 : PySem.W.nsIn K mainGlobals "range" = some none)
    (z1 : PySem.W.nsIn K mainGlobals "len" = some none)
    (z2 : PySem.W.nsIn K mainGlobals "sorted" = some none)
    (z3 : PySem.W.nsIn K mainGlobals "list" = some none)
    (z4 : PySem.W.nsIn K mainGlobals "reversed" = some none)
    (z5 : PySem.W.nsIn K mainGlobals "all" = some none) :
    ∃ fd : FuncData, (∀ (s : Shared) (us : List Value), us.length = (["n", "q", "m", "a", "s"] : List Str).length → BindsTo s fd ⟨us, []⟩ ((["n", "q", "m", "a", "s"] : List Str).zip us)) ∧ ∀ base : Heap, K.In base → base.Ns mainGlobals mg → FnOk P w K mg base CX0 3 fa fd ["n", "q", "m", "a", "s"] (spMain K) := by
  have e := hfa.symm.trans (PySem.W.mg_of X G a8)
  cases e
  have FHas := fun_mk (st := sHas) l0 c0 k0
  have bHas := FHas.binds (ps := ["n"]) fun _ _ _ _ _ _ us hl => match us, hl with | [_], _ => rfl
  have gHas := PySem.W.mg_of X G a0
  have kHas := k0
  have FCount := fun_mk (st := sCount) l1 c1 k1
  have bCount := FCount.binds (ps := ["n"]) fun _ _ _ _ _ _ us hl => match us, hl with | [_], _ => rfl
  have gCount := PySem.W.mg_of X G a1
  have kCount := k1
  have FNums := fun_mk (st := sNums) l2 c2 k2
  have bNums := FNums.binds (ps := ["n", "point"]) fun _ _ _ _ _ _ us hl => match us, hl with | [_, _], _ => rfl
  have gNums := PySem.W.mg_of X G a2
  have kNums := k2
  have FOf := fun_mk (st := sOf) l3 c3 k3
  have bOf := FOf.binds (ps := ["numbers"]) fun _ _ _ _ _ _ us hl => match us, hl with | [_], _ => rfl
  have gOf := PySem.W.mg_of X G a3
  have kOf := k3
  have FSet := fun_mk (st := sSet) l4 c4 k4
  have bSet := FSet.binds (ps := ["n", "s"]) fun _ _ _ _ _ _ us hl => match us, hl with | [_, _], _ => rfl
  have gSet := PySem.W.mg_of X G a4
  have kSet := k4
  have FOrder := fun_mk (st := sOrder) l5 c5 k5
  have bOrder := FOrder.binds (ps := ["n", "q"]) fun _ _ _ _ _ _ us hl => match us, hl with | [_, _], _ => rfl
  have gOrder := PySem.W.mg_of X G a5
  have kOrder := k5
  have FRow := fun_mk (st := sRow) l6 c6 k6
  have bRow := FRow.binds (ps := ["n", "row", "lowest"]) fun _ _ _ _ _ _ us hl => match us, hl with | [_, _, _], _ => rfl
  have gRow := PySem.W.mg_of X G a6
  have kRow := k6
  have FMvp := fun_mk (st := sMvp) l7 c7 k7
  have bMvp := FMvp.binds (ps := ["n", "q", "m", "a", "point"]) fun _ _ _ _ _ _ us hl => match us, hl with | [_, _, _, _, _], _ => rfl
  have gMvp := PySem.W.mg_of X G a7
  have kMvp := k7
  have FMain := fun_mk (st := sMain) l8 c8 k8
  have m_UNFIT := PySem.W.mg_of X G u0
  have m_MOST_NUMBERS := PySem.W.mg_of X G u1
  have m_range := PySem.W.mg_none_of X G z0
  have m_len := PySem.W.mg_none_of X G z1
  have m_sorted := PySem.W.mg_none_of X G z2
  have m_list := PySem.W.mg_none_of X G z3
  have m_reversed := PySem.W.mg_none_of X G z4
  have m_all := PySem.W.mg_none_of X G z5
  refine ⟨PySem.W.fnOf "moved" "moved" (defArgs sMain) (defBody sMain) (defScope sMain) .none kV8 dc8 pm8 an8 cd8 ct8, fun s us hu => match us, hu with | [_, _, _, _, _], _ => .of_eq rfl, fun base _ _ => ?_⟩
  have OM := ok_mvp (P := P) (w := w) (base := base) (k := 0) FMvp (ok_nums FNums m_range) gNums kNums bNums (ok_of FOf m_reversed) gOf kOf bOf m_range
  exact ok_main FMain (ok_has (k := 1) FHas m_MOST_NUMBERS) gHas kHas bHas (ok_set (k := 0) FSet (ok_count FCount m_range) gCount kCount bCount) gSet kSet bSet (ok_order (k := 1) FOrder m_range m_list m_sorted) gOrder kOrder bOrder (ok_row (k := 1) FRow m_len m_all) gRow kRow bRow OM gMvp kMvp bMvp m_UNFIT m_len m_sorted
end Kw
open PySem PySem.W PyProof.Rows
set_option maxRecDepth 100000 in
set_option maxHeartbeats 8000000 in
theorem PySem.Challenge.cw_nothreelines_s09_moved_holds : PySem.Challenge.rw_nothreelines_s09_moved.Holds := by
  w_on; k_headS; (case hw => exact ⟨[.int 0, .list [], .list [], .list [], .list []], by decide +kernel, by decide +kernel⟩)
  k_fillS
  refine L2.walk_specK (r := PySem.Challenge.rw_nothreelines_s09_moved) (k := 3) (CX := L2.CX0) (ps := ["n", "q", "m", "a", "s"]) (sp := Kw.spMain) (by decide +kernel) rfl rfl ⟨rfl, by decide, by decide⟩ (fun w h Y => PySem.W.kIn_of Y) ?F ?S (fun _ _ _ _ z => z)
  case F =>
    intro w mg fa h Y KX G hmg
    refine' Kw.all_mk KX G hmg ?a0 ?l0 ?c0 ?k0 ?a1 ?l1 ?c1 ?k1 ?a2 ?l2 ?c2 ?k2 ?a3 ?l3 ?c3 ?k3 ?a4 ?l4 ?c4 ?k4 ?a5 ?l5 ?c5 ?k5 ?a6 ?l6 ?c6 ?k6 ?a7 ?l7 ?c7 ?k7 ?a8 ?l8 ?c8 ?k8 ?u0 ?u1 ?z0 ?z1 ?z2 ?z3 ?z4 ?z5
    (case a0 => k_is)
    (case l0 => k_is)
    (case c0 => k_is)
    (case k0 => k_is)
    (case a1 => k_is)
    (case l1 => k_is)
    (case c1 => k_is)
    (case k1 => k_is)
    (case a2 => k_is)
    (case l2 => k_is)
    (case c2 => k_is)
    (case k2 => k_is)
    (case a3 => k_is)
    (case l3 => k_is)
    (case c3 => k_is)
    (case k3 => k_is)
    (case a4 => k_is)
    (case l4 => k_is)
    (case c4 => k_is)
    (case k4 => k_is)
    (case a5 => k_is)
    (case l5 => k_is)
    (case c5 => k_is)
    (case k5 => k_is)
    (case a6 => k_is)
    (case l6 => k_is)
    (case c6 => k_is)
    (case k6 => k_is)
    (case a7 => k_is)
    (case l7 => k_is)
    (case c7 => k_is)
    (case k7 => k_is)
    (case a8 => k_is)
    (case l8 => k_is)
    (case c8 => k_is)
    (case k8 => k_is)
    (case u0 => k_is)
    (case u1 => k_is)
    (case z0 => k_is)
    (case z1 => k_is)
    (case z2 => k_is)
    (case z3 => k_is)
    (case z4 => k_is)
    (case z5 => k_is)
  case S =>
    intro K H xs a hO hwi hask hx
    have q : (Codec.inInt 0 4294967295 a.1 && ((Codec.inLen 0 100 a.2.1 && a.2.1.all (Codec.inInt 0 4294967295)) && ((Codec.inLen 0 100 a.2.2.1 && a.2.2.1.all (Codec.inInt 0 4294967295)) && ((Codec.inLen 0 100 a.2.2.2.1 && a.2.2.2.1.all (Codec.inInt 0 4294967295)) && ((Codec.inLen 0 100 a.2.2.2.2.1 && a.2.2.2.2.1.all (Codec.inInt 0 4294967295)) && true))))) = true := hwi
    obtain ⟨q1, q⟩ := Bool.and_eq_true_iff.mp q
    obtain ⟨qq, q⟩ := Bool.and_eq_true_iff.mp q
    obtain ⟨qm, q⟩ := Bool.and_eq_true_iff.mp q
    obtain ⟨qa, q⟩ := Bool.and_eq_true_iff.mp q
    obtain ⟨qs, _⟩ := Bool.and_eq_true_iff.mp q
    have lst : ∀ z : List Int, (Codec.inLen 0 100 z && z.all (Codec.inInt 0 4294967295)) = true → ∃ s : List Nat, z = Kz.up s ∧ s.length ≤ 100 := fun z hz => by
      rw [Bool.and_eq_true] at hz
      have h2 : z.length ≤ 100 := (Codec.inNat_iff.mp hz.1).2
      have h3 : ∀ x ∈ z, 0 ≤ x := fun x hx => (Codec.inInt_iff.mp (List.all_eq_true.mp hz.2 x hx)).1
      have e := (Kz.up_down h3).symm
      refine ⟨_, e, ?_⟩
      rw [e] at h2
      unfold Kz.up at h2
      rwa [List.length_map] at h2
    obtain ⟨n, zq, zm, za, zs, u⟩ := a
    obtain ⟨n, rfl⟩ := Int.eq_ofNat_of_zero_le (show 0 ≤ n from (Codec.inInt_iff.mp q1).1)
    obtain ⟨lq, rfl, _⟩ := lst zq qq
    obtain ⟨lm, rfl, bm⟩ := lst zm qm
    obtain ⟨la, rfl, ba⟩ := lst za qa
    obtain ⟨ls, rfl, bs⟩ := lst zs qs
    cases hx with
    | cons h1 h2 =>
      cases h1
      cases h2 with
      | cons h3 h4 =>
        cases h4 with
        | cons h5 h6 =>
          cases h6 with
          | cons h7 h8 =>
            cases h8 with
            | cons h9 h10 =>
              cases h10
              cases h3 with
              | lst sq dq =>
                cases h5 with
                | lst sm dm =>
                  cases h7 with
                  | lst sa da =>
                    cases h9 with
                    | lst ss ds =>
                      have e1 := L2.ints_dw (Kz.up lq) _ dq
                      have e2 := L2.ints_dw (Kz.up lm) _ dm
                      have e3 := L2.ints_dw (Kz.up la) _ da
                      have e4 := L2.ints_dw (Kz.up ls) _ ds
                      subst e1
                      subst e2
                      subst e3
                      subst e4
                      rw [Kw.nV_ints] at sq sm sa ss
                      exact ⟨n, _, _, _, _, lq, lm, la, ls, rfl, sq, sm, sa, ss, bm, ba, bs, fun H' p hp => .lst (L2.SqL.of hp) (L2.dw_ints _)⟩
#print axioms PySem.Challenge.cw_nothreelines_s09_moved_holds
