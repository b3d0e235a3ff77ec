import PyProof.Rows.All
import Wide.All
import OpenK.AllK
import Wide.FinOn
import Open.SpecLaws
import KE.OsGo
import HandS.ForSpec
import HandS.Dict
import HandS.Iter
import HandS.WordsDict
import HandS.Walk
import PySem.Challenge.RW_nothreelines_s07_bound
set_option Elab.async false
set_option linter.all false
set_option maxRecDepth 100000
set_option maxHeartbeats 4000000
namespace Kz
/-! ### third -/
theorem third_zero (x y : Nat) : Kzt3.third 0 x y = 0 := rfl
theorem third_succ (i x y : Nat) : Kzt3.third (i + 1) x y = Kzt3.third i x y + (6 - x / 3 ^ i % 3 - y / 3 ^ i % 3) % 3 * 3 ^ i := by
  unfold Kzt3.third
  rw [List.range_succ, List.map_append, List.foldl_append]
  rfl
theorem third_lt (i x y : Nat) : Kzt3.third i x y < 3 ^ i := by
  induction i with
  | zero => exact Nat.one_pos
  | succ i ih =>
    rw [third_succ, Nat.pow_succ]
    have h : (6 - x / 3 ^ i % 3 - y / 3 ^ i % 3) % 3 < 3 := Nat.mod_lt _ (by decide)
    generalize (6 - x / 3 ^ i % 3 - y / 3 ^ i % 3) % 3 = d at h
    have h2 : d * 3 ^ i ≤ 2 * 3 ^ i := Nat.mul_le_mul_right _ (by omega)
    omega
theorem pow_pos3 (i : Nat) : 0 < 3 ^ i := Nat.pow_pos (by decide)
theorem pow_le81 {i : Nat} (h : i ≤ 4) : 3 ^ i ≤ 81 := Nat.pow_le_pow_right (n := 3) (by decide) h
/-- one turn of the loop, as Python reckons it -/
theorem turn_third (i x y : Nat) :
    (Kzt3.third i x y : Int) + (6 - ((x : Int) / ((3 ^ i : Nat) : Int) % 3 + (y : Int) / ((3 ^ i : Nat) : Int) % 3)) % 3 * ((3 ^ i : Nat) : Int) = ((Kzt3.third (i + 1) x y : Nat) : Int) := by
  rw [third_succ]
  have e1 : (x : Int) / ((3 ^ i : Nat) : Int) % 3 = ((x / 3 ^ i % 3 : Nat) : Int) := rfl
  have e2 : (y : Int) / ((3 ^ i : Nat) : Int) % 3 = ((y / 3 ^ i % 3 : Nat) : Int) := rfl
  rw [e1, e2]
  have h1 : x / 3 ^ i % 3 < 3 := Nat.mod_lt _ (by decide)
  have h2 : y / 3 ^ i % 3 < 3 := Nat.mod_lt _ (by decide)
  generalize x / 3 ^ i % 3 = a at h1
  generalize y / 3 ^ i % 3 = b at h2
  have e3 : (6 - ((a : Int) + (b : Int))) % 3 = (((6 - a - b) % 3 : Nat) : Int) := by omega
  rw [e3, Int.natCast_add, Int.natCast_mul]
theorem turn_pow (i : Nat) : ((3 ^ i : Nat) : Int) * 3 = ((3 ^ (i + 1) : Nat) : Int) := by
  rw [Nat.pow_succ, Int.natCast_mul]
  rfl
/-! ### sets -/
/-- the loop of is_set from its item on -/
def chk (cnt : Nat) : Nat → List Nat → Bool
  | _, [] => true
  | lo, p :: r => if p < lo ∨ cnt ≤ p then false else chk cnt (p + 1) r
theorem chk_nil (cnt lo : Nat) : chk cnt lo [] = true := rfl
theorem chk_cons (cnt lo p : Nat) (r : List Nat) : chk cnt lo (p :: r) = if p < lo ∨ cnt ≤ p then false else chk cnt (p + 1) r := rfl
theorem chk_low {cnt : Nat} : ∀ {s : List Nat} {lo : Nat}, chk cnt lo s = true → ∀ x ∈ s, lo ≤ x ∧ x < cnt
  | [], _, _, x, h => by cases h
  | p :: r, lo, h, x, hx => by
    unfold chk at h
    by_cases c : p < lo ∨ cnt ≤ p
    · rw [if_pos c] at h
      cases h
    · rw [if_neg c] at h
      cases hx with
      | head => omega
      | tail _ hx =>
        have := chk_low h x hx
        omega
theorem chk_ok {cnt : Nat} : ∀ {s : List Nat} {lo : Nat}, chk cnt lo s = (Kzt3.rising s && s.all (fun x => decide (x < cnt)) && decide (∀ x ∈ s.head?, lo ≤ x))
  | [], _ => by simp [chk, Kzt3.rising]
  | [p], lo => by
    simp only [chk, Kzt3.rising]
    by_cases c : p < lo ∨ cnt ≤ p
    · rw [if_pos c]
      simp
      omega
    · rw [if_neg c]
      simp
      omega
  | p :: q :: r, lo => by
    have ih := chk_ok (cnt := cnt) (s := q :: r) (lo := p + 1)
    unfold chk
    rw [ih, show Kzt3.rising (p :: q :: r) = (decide (p < q) && Kzt3.rising (q :: r)) from rfl]
    by_cases c : p < lo ∨ cnt ≤ p
    · rw [if_pos c]
      simp
      omega
    · rw [if_neg c]
      have c1 : p < cnt := by omega
      have c2 : lo ≤ p := by omega
      by_cases d : p < q
      · have d' : p + 1 ≤ q := d
        simp [c1, c2, d, d']
      · have d' : ¬ p + 1 ≤ q := d
        simp [d, d']
theorem chk_set (n : Nat) (s : List Nat) : chk (3 ^ n) 0 s = Kzt3.okSet n s := by
  rw [chk_ok]
  unfold Kzt3.okSet
  simp
/-- what rises -/
theorem chk_pair {cnt : Nat} : ∀ {s : List Nat} {lo : Nat}, chk cnt lo s = true → s.Pairwise (· < ·)
  | [], _, _ => .nil
  | p :: r, lo, h => by
    unfold chk at h
    by_cases c : p < lo ∨ cnt ≤ p
    · rw [if_pos c] at h
      cases h
    · rw [if_neg c] at h
      exact .cons (fun x hx => (chk_low h x hx).1) (chk_pair h)
theorem ok_pair {n : Nat} {s : List Nat} (h : Kzt3.okSet n s = true) : s.Pairwise (· < ·) := chk_pair ((chk_set n s).trans h)
theorem ok_lt {n : Nat} {s : List Nat} (h : Kzt3.okSet n s = true) : ∀ x ∈ s, x < 3 ^ n := fun x hx => (chk_low ((chk_set n s).trans h) x hx).2
/-! ### lists -/
theorem take_more {α : Type} : ∀ {l : List α} {i : Nat} {x : α}, l[i]? = some x → l.take (i + 1) = l.take i ++ [x]
  | [], i, x, h => by simp at h
  | a :: l, 0, x, h => by
    have e : a = x := Option.some.inj h
    subst e
    rfl
  | a :: l, i + 1, x, h => by
    have ih := take_more (l := l) (i := i) (x := x) h
    show a :: l.take (i + 1) = a :: l.take i ++ [x]
    rw [ih]
    rfl
theorem drop_more {α : Type} : ∀ {l : List α} {i : Nat} {x : α}, l[i]? = some x → l.drop i = x :: l.drop (i + 1)
  | [], i, x, h => by simp at h
  | a :: l, 0, x, h => by
    have e : a = x := Option.some.inj h
    subst e
    rfl
  | a :: l, i + 1, x, h => drop_more (l := l) (i := i) (x := x) h
/-! ### threes -/
abbrev Tri := Nat × Nat × Nat
/-- a second point's three, x the first -/
def tri (n : Nat) (s : List Nat) (x y : Nat) : Option Tri := if y < Kzt3.third n x y ∧ s.contains (Kzt3.third n x y) = true then some (x, y, Kzt3.third n x y) else none
theorem fm_none {α β : Type} {f : α → Option β} : ∀ {l : List α}, (∀ x ∈ l, f x = none) → l.filterMap f = []
  | [], _ => rfl
  | a :: l, h => by
    rw [List.filterMap_cons, h a List.mem_cons_self]
    exact fm_none fun x hx => h x (List.mem_cons_of_mem _ hx)
theorem fm_eq {α β : Type} {f g : α → Option β} : ∀ {l : List α}, (∀ x ∈ l, f x = g x) → l.filterMap f = l.filterMap g
  | [], _ => rfl
  | a :: l, h => by
    rw [List.filterMap_cons, List.filterMap_cons, h a List.mem_cons_self, fm_eq fun x hx => h x (List.mem_cons_of_mem _ hx)]
theorem row_of {n : Nat} {s : List Nat} (hs : s.Pairwise (· < ·)) {i x : Nat} (hi : s[i]? = some x) :
    (s.filterMap fun y => let z := Kzt3.third n x y
      if x < y ∧ y < z ∧ s.contains z = true then some (x, y, z) else none) = (s.drop (i + 1)).filterMap (tri n s x) := by
  have e : s = s.take i ++ x :: s.drop (i + 1) := by
    rw [← drop_more hi]
    exact (List.take_append_drop i s).symm
  have hp := hs
  rw [e] at hp
  rw [List.pairwise_append] at hp
  obtain ⟨_, p2, p3⟩ := hp
  rw [List.pairwise_cons] at p2
  have h1 : ∀ (f : Nat → Option Tri), s.filterMap f = (s.take i).filterMap f ++ (x :: s.drop (i + 1)).filterMap f := fun f => by
    conv => lhs; rw [e]
    rw [List.filterMap_append]
  rw [h1, List.filterMap_cons]
  rw [fm_none fun y hy => ?_]
  · have hx : ¬ (x < x ∧ x < Kzt3.third n x x ∧ s.contains (Kzt3.third n x x) = true) := fun c => Nat.lt_irrefl _ c.1
    dsimp only
    rw [if_neg hx]
    dsimp only
    rw [List.nil_append]
    refine fm_eq fun y hy => ?_
    have hxy : x < y := p2.1 y hy
    unfold tri
    by_cases c : y < Kzt3.third n x y ∧ s.contains (Kzt3.third n x y) = true
    · rw [if_pos c, if_pos ⟨hxy, c⟩]
    · rw [if_neg c, if_neg fun q => c q.2]
  · have hyx : y < x := p3 y hy x List.mem_cons_self
    dsimp only
    rw [if_neg fun c => Nat.lt_asymm c.1 hyx]
/-- what the loops have behind i first points -/
def lns (n : Nat) (s : List Nat) (i : Nat) : List Tri := (s.take i).flatMap fun x => s.filterMap fun y => let z := Kzt3.third n x y
  if x < y ∧ y < z ∧ s.contains z = true then some (x, y, z) else none
theorem lns_all (n : Nat) (s : List Nat) : lns n s s.length = Kzt3.threes n s := by
  unfold lns Kzt3.threes
  rw [List.take_length]
theorem lns_more {n : Nat} {s : List Nat} (hs : s.Pairwise (· < ·)) {i x : Nat} (hi : s[i]? = some x) : lns n s (i + 1) = lns n s i ++ (s.drop (i + 1)).filterMap (tri n s x) := by
  unfold lns
  rw [take_more hi, List.flatMap_append, List.flatMap_cons, List.flatMap_nil, List.append_nil, row_of hs hi]
/-- and behind j of the second ones -/
def lnsj (n : Nat) (s : List Nat) (i x j : Nat) : List Tri := lns n s i ++ ((s.drop (i + 1)).take j).filterMap (tri n s x)
theorem lnsj_more {n : Nat} {s : List Nat} {i x j y : Nat} (hj : (s.drop (i + 1))[j]? = some y) : lnsj n s i x (j + 1) = lnsj n s i x j ++ (tri n s x y).toList := by
  unfold lnsj
  rw [take_more hj, List.filterMap_append, List.append_assoc]
  congr 1
theorem lnsj_all {n : Nat} {s : List Nat} (hs : s.Pairwise (· < ·)) {i x : Nat} (hi : s[i]? = some x) : lnsj n s i x (s.drop (i + 1)).length = lns n s (i + 1) := by
  unfold lnsj
  rw [List.take_length, lns_more hs hi]
theorem lns_len {n : Nat} {s : List Nat} (i : Nat) : (lns n s i).length ≤ i * s.length := by
  unfold lns
  induction i with
  | zero => simp
  | succ i ih =>
    cases e : s[i]? with
    | none =>
      have z : s.take (i + 1) = s.take i := by
        rw [List.getElem?_eq_none_iff] at e
        rw [List.take_of_length_le (by omega), List.take_of_length_le e]
      rw [z]
      refine Nat.le_trans ih (Nat.mul_le_mul_right _ (Nat.le_succ i))
    | some x =>
      rw [take_more e, List.flatMap_append, List.length_append, List.flatMap_cons, List.flatMap_nil, List.append_nil, Nat.succ_mul]
      exact Nat.add_le_add ih (List.length_filterMap_le _ _)
theorem lnsj_len {n : Nat} {s : List Nat} {i x j : Nat} : (lnsj n s i x j).length ≤ i * s.length + s.length := by
  unfold lnsj
  rw [List.length_append]
  refine Nat.add_le_add (lns_len i) (Nat.le_trans (List.length_filterMap_le _ _) ?_)
  rw [List.length_take, List.length_drop]
  omega
/-! ### numbers handed in -/
def up (l : List Nat) : List Int := l.map fun (x : Nat) => (x : Int)
theorem up_down {l : List Int} (h : ∀ x ∈ l, 0 ≤ x) : up (l.map Int.toNat) = l := by
  induction l with
  | nil => rfl
  | cons a l ih =>
    show ((a.toNat : Nat) : Int) :: up (l.map Int.toNat) = a :: l
    rw [ih fun x hx => h x (List.mem_cons_of_mem _ hx), Int.toNat_of_nonneg (h a List.mem_cons_self)]
end Kz
namespace Kz
/-! ### the third, digit by digit -/
theorem digit_low {i m : Nat} (h : i < m) (y c : Nat) : (y + c * 3 ^ m) / 3 ^ i % 3 = y / 3 ^ i % 3 := by
  have e : c * 3 ^ m = 3 ^ i * (3 * (c * 3 ^ (m - i - 1))) := by
    have e1 : 3 ^ m = 3 ^ i * (3 * 3 ^ (m - i - 1)) := by
      rw [← Nat.pow_succ', ← Nat.pow_add]
      congr 1
      omega
    rw [e1, Nat.mul_left_comm c, Nat.mul_left_comm c]
  rw [e, Nat.add_mul_div_left _ _ (pow_pos3 i), Nat.add_mul_mod_self_left]
theorem third_low : ∀ {n m : Nat}, n ≤ m → ∀ x y c : Nat, Kzt3.third n x (y + c * 3 ^ m) = Kzt3.third n x y
  | 0, _, _, _, _, _ => rfl
  | n + 1, m, h, x, y, c => by
    rw [third_succ, third_succ, third_low (Nat.le_of_succ_le h), digit_low h]
theorem third_comm (n x y : Nat) : Kzt3.third n x y = Kzt3.third n y x := by
  induction n with
  | zero => rfl
  | succ n ih => rw [third_succ, third_succ, ih, Nat.sub_right_comm]
theorem third_inv0 (n x y : Nat) : Kzt3.third n x (Kzt3.third n x y) = y % 3 ^ n := by
  induction n with
  | zero => rw [third_zero, Nat.pow_zero, Nat.mod_one]
  | succ n ih =>
    rw [third_succ n x (Kzt3.third (n + 1) x y), third_succ n x y, third_low (Nat.le_refl n), ih]
    rw [Nat.mod_pow_succ, Nat.add_mul_div_right _ _ (pow_pos3 n), Nat.div_eq_of_lt (third_lt n x y), Nat.zero_add, Nat.mod_mod, Nat.mul_comm (3 ^ n)]
    congr 2
    have h1 : x / 3 ^ n % 3 < 3 := Nat.mod_lt _ (by decide)
    have h2 : y / 3 ^ n % 3 < 3 := Nat.mod_lt _ (by decide)
    omega
theorem third_self0 (n x : Nat) : Kzt3.third n x x = x % 3 ^ n := by
  induction n with
  | zero => rw [third_zero, Nat.pow_zero, Nat.mod_one]
  | succ n ih =>
    rw [third_succ, ih, Nat.mod_pow_succ, Nat.mul_comm (3 ^ n)]
    congr 2
    have h1 : x / 3 ^ n % 3 < 3 := Nat.mod_lt _ (by decide)
    omega
theorem third_inv {n x y : Nat} (h : y < 3 ^ n) : Kzt3.third n x (Kzt3.third n x y) = y := (third_inv0 n x y).trans (Nat.mod_eq_of_lt h)
theorem third_self {n x : Nat} (h : x < 3 ^ n) : Kzt3.third n x x = x := (third_self0 n x).trans (Nat.mod_eq_of_lt h)
/-- the third of x and y is z just if that of x and z is y -/
theorem third_iff {n x y z : Nat} (hy : y < 3 ^ n) (hz : z < 3 ^ n) : Kzt3.third n x y = z ↔ Kzt3.third n x z = y :=
  ⟨fun e => by rw [← e]; exact third_inv hy, fun e => by rw [← e]; exact third_inv hz⟩
theorem third_left {n x y : Nat} (hx : x < 3 ^ n) (hy : y < 3 ^ n) : Kzt3.third n x y = x ↔ y = x := by
  rw [third_iff hy hx, third_self hx]
  exact eq_comm
theorem third_right {n x y : Nat} (hx : x < 3 ^ n) (hy : y < 3 ^ n) : Kzt3.third n x y = y ↔ x = y := by
  rw [third_comm, third_left hy hx]
/-! ### what may be added -/
theorem may_iff {n : Nat} {s : List Nat} (hs : ∀ y ∈ s, y < 3 ^ n) {x : Nat} (hx : x < 3 ^ n) : Kzt3.may n s x = true ↔ x ∉ s ∧ ∀ y ∈ s, Kzt3.third n x y ∉ s := by
  unfold Kzt3.may
  rw [Bool.and_eq_true, List.all_eq_true]
  constructor
  · rintro ⟨h1, h2⟩
    have n1 : x ∉ s := by simpa using h1
    refine ⟨n1, fun y hy hc => ?_⟩
    have q := h2 y hy
    have e1 : ¬ Kzt3.third n x y = x := fun e => n1 (by rw [← (third_left hx (hs y hy)).mp e]; exact hy)
    have e2 : ¬ Kzt3.third n x y = y := fun e => n1 (by rw [(third_right hx (hs y hy)).mp e]; exact hy)
    simp [hc, e1, e2] at q
  · rintro ⟨h1, h2⟩
    refine ⟨by simpa using h1, fun y hy => ?_⟩
    have q := h2 y hy
    simp [q]
/-- one point more -/
theorem may_more {n : Nat} {s : List Nat} (hs : ∀ y ∈ s, y < 3 ^ n) {x y : Nat} (hx : x < 3 ^ n) (hy : y < 3 ^ n) (hm : Kzt3.may n s y = true) (hxy : y ≠ x) :
    Kzt3.may n (s ++ [x]) y = true ↔ ∀ z ∈ s, Kzt3.third n x z ≠ y := by
  have hs' : ∀ z ∈ s ++ [x], z < 3 ^ n := fun z hz => by
    rcases List.mem_append.mp hz with h | h
    · exact hs z h
    · rw [List.mem_singleton.mp h]; exact hx
  obtain ⟨m1, m2⟩ := (may_iff hs hy).mp hm
  rw [may_iff hs' hy]
  constructor
  · rintro ⟨_, h2⟩ z hz e
    refine h2 x (List.mem_append_right _ (List.mem_singleton.mpr rfl)) (List.mem_append_left _ ?_)
    rw [third_comm, (third_iff (hs z hz) hy).mp e]
    exact hz
  · intro h
    refine ⟨fun c => ?_, fun z hz c => ?_⟩
    · rcases List.mem_append.mp c with q | q
      · exact m1 q
      · exact hxy (List.mem_singleton.mp q)
    · rcases List.mem_append.mp hz with q | q
      · rcases List.mem_append.mp c with r | r
        · exact m2 z q r
        · have e : Kzt3.third n y z = x := List.mem_singleton.mp r
          rw [third_comm, third_iff hy hx] at e
          exact h z q (by rw [third_comm]; exact e)
      · have e : z = x := List.mem_singleton.mp q
        subst e
        rcases List.mem_append.mp c with r | r
        · exact h _ r (by rw [third_comm n y z]; exact third_inv hy)
        · exact hxy ((third_right hy hx).mp (List.mem_singleton.mp r))
/-! ### no three in a line -/
theorem mem_threes {n : Nat} {s : List Nat} {t : Tri} : t ∈ Kzt3.threes n s ↔ t.1 ∈ s ∧ t.2.1 ∈ s ∧ t.2.2 ∈ s ∧ t.1 < t.2.1 ∧ t.2.1 < t.2.2 ∧ t.2.2 = Kzt3.third n t.1 t.2.1 := by
  unfold Kzt3.threes
  rw [List.mem_flatMap]
  constructor
  · rintro ⟨x, hx, h⟩
    obtain ⟨y, hy, e⟩ := List.mem_filterMap.mp h
    dsimp only at e
    by_cases c : x < y ∧ y < Kzt3.third n x y ∧ s.contains (Kzt3.third n x y) = true
    · rw [if_pos c] at e
      cases e
      exact ⟨hx, hy, by simpa using c.2.2, c.1, c.2.1, rfl⟩
    · rw [if_neg c] at e
      cases e
  · obtain ⟨x, y, z⟩ := t
    rintro ⟨hx, hy, hz, h1, h2, h3⟩
    dsimp only at hx hy hz h1 h2 h3
    refine ⟨x, hx, List.mem_filterMap.mpr ⟨y, hy, ?_⟩⟩
    dsimp only
    rw [← h3, if_pos ⟨h1, h2, by simpa using hz⟩]
theorem free_iff {n : Nat} {s : List Nat} (hs : ∀ y ∈ s, y < 3 ^ n) : Kzt3.free n s = true ↔ ∀ x ∈ s, ∀ y ∈ s, x ≠ y → Kzt3.third n x y ∉ s := by
  unfold Kzt3.free
  rw [List.isEmpty_iff]
  constructor
  · intro h x hx y hy ne hc
    have no : ∀ a ∈ s, ∀ b ∈ s, ∀ c ∈ s, a < b → b < c → c = Kzt3.third n a b → False := fun a ha b hb c hc h1 h2 e => by
      have q : ((a, b, c) : Tri) ∈ Kzt3.threes n s := mem_threes.mpr ⟨ha, hb, hc, h1, h2, e⟩
      rw [h] at q
      cases q
    have hX := hs x hx
    have hY := hs y hy
    generalize e : Kzt3.third n x y = z at hc
    have hZ := hs z hc
    have nx : z ≠ x := fun q => ne ((third_left hX hY).mp (e.trans q)).symm
    have ny : z ≠ y := fun q => ne ((third_right hX hY).mp (e.trans q))
    have e2 : Kzt3.third n y x = z := (third_comm n y x).trans e
    have e3 : Kzt3.third n x z = y := (third_iff hY hZ).mp e
    have e4 : Kzt3.third n z x = y := (third_comm n z x).trans e3
    have e5 : Kzt3.third n y z = x := (third_iff hX hZ).mp e2
    have e6 : Kzt3.third n z y = x := (third_comm n z y).trans e5
    rcases Nat.lt_or_gt_of_ne ne with a | a
    · rcases Nat.lt_or_gt_of_ne ny with b | b
      · rcases Nat.lt_or_gt_of_ne nx with c | c
        · exact no z hc x hx y hy c a e4.symm
        · exact no x hx z hc y hy c b e3.symm
      · exact no x hx y hy z hc a b e.symm
    · rcases Nat.lt_or_gt_of_ne nx with b | b
      · rcases Nat.lt_or_gt_of_ne ny with c | c
        · exact no z hc y hy x hx c a e6.symm
        · exact no y hy z hc x hx c b e5.symm
      · exact no y hy x hx z hc a b e2.symm
  · intro h
    cases e : Kzt3.threes n s with
    | nil => rfl
    | cons t r =>
      have q : t ∈ Kzt3.threes n s := by rw [e]; exact List.mem_cons_self
      obtain ⟨h1, h2, h3, h4, _, h6⟩ := mem_threes.mp q
      exact absurd (by rw [← h6]; exact h3) (h _ h1 _ h2 (Nat.ne_of_lt h4))
/-! ### put: one more into a rising row -/
theorem mem_put {x z : Nat} : ∀ {l : List Nat}, z ∈ Kzt3.put x l ↔ z = x ∨ z ∈ l
  | [] => by
    unfold Kzt3.put
    simp
  | y :: l => by
    unfold Kzt3.put
    by_cases c1 : x < y
    · rw [if_pos c1]
      simp
    · rw [if_neg c1]
      by_cases c2 : x = y
      · rw [if_pos c2]
        subst c2
        simp
      · rw [if_neg c2, List.mem_cons, mem_put, List.mem_cons]
        constructor
        · rintro (h | h | h)
          · exact .inr (.inl h)
          · exact .inl h
          · exact .inr (.inr h)
        · rintro (h | h | h)
          · exact .inr (.inl h)
          · exact .inl h
          · exact .inr (.inr h)
theorem put_pair {x : Nat} : ∀ {l : List Nat}, l.Pairwise (· < ·) → (Kzt3.put x l).Pairwise (· < ·)
  | [], _ => List.pairwise_singleton _ _
  | y :: l, h => by
    have h2 := List.pairwise_cons.mp h
    unfold Kzt3.put
    by_cases c1 : x < y
    · rw [if_pos c1]
      exact .cons (fun z hz => by
        rcases List.mem_cons.mp hz with q | q
        · rw [q]; exact c1
        · exact Nat.lt_trans c1 (h2.1 z q)) h
    · rw [if_neg c1]
      by_cases c2 : x = y
      · rw [if_pos c2]
        exact h
      · rw [if_neg c2]
        exact .cons (fun z hz => by
          rcases mem_put.mp hz with q | q
          · omega
          · exact h2.1 z q) (put_pair h2.2)
/-- two rising rows of the same numbers are one -/
theorem rise_ext : ∀ {l m : List Nat}, l.Pairwise (· < ·) → m.Pairwise (· < ·) → (∀ x, x ∈ l ↔ x ∈ m) → l = m
  | [], [], _, _, _ => rfl
  | [], b :: m, _, _, h => absurd ((h b).mpr List.mem_cons_self) (by simp)
  | a :: l, [], _, _, h => absurd ((h a).mp List.mem_cons_self) (by simp)
  | a :: l, b :: m, hl, hm, h => by
    have h1 := List.pairwise_cons.mp hl
    have h2 := List.pairwise_cons.mp hm
    have e : a = b := by
      rcases List.mem_cons.mp ((h a).mp List.mem_cons_self) with q | q
      · exact q
      · rcases List.mem_cons.mp ((h b).mpr List.mem_cons_self) with r | r
        · exact r.symm
        · have := h2.1 a q
          have := h1.1 b r
          omega
    subst e
    congr 1
    refine rise_ext h1.2 h2.2 fun x => ?_
    constructor
    · intro hx
      rcases List.mem_cons.mp ((h x).mp (List.mem_cons_of_mem _ hx)) with q | q
      · subst q
        exact absurd (h1.1 x hx) (Nat.lt_irrefl _)
      · exact q
    · intro hx
      rcases List.mem_cons.mp ((h x).mpr (List.mem_cons_of_mem _ hx)) with q | q
      · subst q
        exact absurd (h2.1 x hx) (Nat.lt_irrefl _)
      · exact q
theorem range_pair (n : Nat) : (List.range n).Pairwise (· < ·) := List.pairwise_lt_range
/-- a rising row is what the range has of it -/
theorem rise_filter {N : Nat} {l : List Nat} (hl : l.Pairwise (· < ·)) (hN : ∀ x ∈ l, x < N) : (List.range N).filter (fun x => l.contains x) = l := by
  refine rise_ext ((range_pair N).filter _) hl fun x => ?_
  rw [List.mem_filter, List.mem_range]
  constructor
  · rintro ⟨_, h⟩
    simpa using h
  · intro h
    exact ⟨hN x h, by simpa using h⟩
end Kz
namespace Kz
/-! ### rooms -/
theorem sum_cons (a : Nat) : ∀ (e : List Nat) (b : Nat), e.foldl (· + ·) (b + a) = e.foldl (· + ·) b + a
  | [], b => rfl
  | c :: e, b => by
    rw [List.foldl_cons, List.foldl_cons, ← sum_cons a e (b + c), Nat.add_right_comm]
/-- rows whose numbers are d at most together, of those that follow a -/
theorem rooms_row (n d a : Nat) : (((Kzt3.powers n).map fun e => a :: e).filter fun e => decide (e.foldl (· + ·) 0 ≤ d)).length = if a ≤ d then Kzt3.rooms n (d - a) else 0 := by
  rw [List.filter_map, List.length_map]
  unfold Kzt3.rooms
  by_cases c : a ≤ d
  · rw [if_pos c]
    congr 1
    refine List.filter_congr fun e _ => ?_
    show decide ((a :: e).foldl (· + ·) 0 ≤ d) = decide (e.foldl (· + ·) 0 ≤ d - a)
    rw [List.foldl_cons, sum_cons a e 0]
    exact decide_eq_decide.mpr (by omega)
  · rw [if_neg c, List.length_eq_zero_iff, List.filter_eq_nil_iff]
    intro e _ z
    have z2 : (a :: e).foldl (· + ·) 0 ≤ d := of_decide_eq_true z
    rw [List.foldl_cons, sum_cons a e 0] at z2
    omega
theorem rooms_zero (d : Nat) : Kzt3.rooms 0 d = 1 := by
  show ([[]].filter fun e : List Nat => decide (e.foldl (· + ·) 0 ≤ d)).length = 1
  rw [List.filter_cons, if_pos (decide_eq_true (show List.foldl (fun x1 x2 => x1 + x2) 0 ([] : List Nat) ≤ d from Nat.zero_le d))]
  rfl
theorem rooms_succ (n d : Nat) : Kzt3.rooms (n + 1) d = Kzt3.rooms n d + (if 1 ≤ d then Kzt3.rooms n (d - 1) else 0) + (if 2 ≤ d then Kzt3.rooms n (d - 2) else 0) := by
  have h0 := rooms_row n d 0
  rw [if_pos (Nat.zero_le d), Nat.sub_zero] at h0
  rw [← h0, ← rooms_row n d 1, ← rooms_row n d 2]
  show ((((List.range 3).flatMap fun a => (Kzt3.powers n).map fun e => a :: e).filter fun e => decide (e.foldl (· + ·) 0 ≤ d))).length = _
  rw [show List.range 3 = [0, 1, 2] from rfl, List.flatMap_cons, List.flatMap_cons, List.flatMap_cons, List.flatMap_nil, List.append_nil, List.filter_append, List.filter_append, List.length_append, List.length_append, Nat.add_assoc]
/-- all rows -/
theorem rooms_all : ∀ {n d : Nat}, 2 * n ≤ d → Kzt3.rooms n d = 3 ^ n
  | 0, d, _ => rooms_zero d
  | n + 1, d, h => by
    rw [rooms_succ, if_pos (by omega), if_pos (by omega), rooms_all (by omega), rooms_all (by omega), rooms_all (by omega), Nat.pow_succ]
    omega
/-! ### rooms by the points' numbers -/
def dsum : Nat → Nat → Nat
  | 0, _ => 0
  | n + 1, x => dsum n x + x / 3 ^ n % 3
theorem dsum_low : ∀ {n m : Nat}, n ≤ m → ∀ x c : Nat, dsum n (x + c * 3 ^ m) = dsum n x
  | 0, _, _, _, _ => rfl
  | n + 1, m, h, x, c => by
    show dsum n (x + c * 3 ^ m) + (x + c * 3 ^ m) / 3 ^ n % 3 = dsum n x + x / 3 ^ n % 3
    rw [dsum_low (Nat.le_of_succ_le h), digit_low h]
theorem dsum_top {n x c : Nat} (hx : x < 3 ^ n) (hc : c < 3) : dsum (n + 1) (x + c * 3 ^ n) = dsum n x + c := by
  show dsum n (x + c * 3 ^ n) + (x + c * 3 ^ n) / 3 ^ n % 3 = dsum n x + c
  rw [dsum_low (Nat.le_refl n), Nat.add_mul_div_right _ _ (pow_pos3 n), Nat.div_eq_of_lt hx, Nat.zero_add, Nat.mod_eq_of_lt hc]
/-- how many points below b have d at most -/
def cntS (n d b : Nat) : Nat := ((List.range b).filter fun x => decide (dsum n x ≤ d)).length
theorem cntS_zero (n d : Nat) : cntS n d 0 = 0 := rfl
theorem cntS_succ (n d b : Nat) : cntS n d (b + 1) = cntS n d b + if dsum n b ≤ d then 1 else 0 := by
  unfold cntS
  rw [List.range_succ, List.filter_append, List.length_append, List.filter_cons, List.filter_nil]
  by_cases c : dsum n b ≤ d
  · rw [if_pos c, if_pos (decide_eq_true c)]
    rfl
  · rw [if_neg c, if_neg fun z => c (of_decide_eq_true z)]
    rfl
theorem cntS_part {n d c : Nat} (hc : c < 3) : ∀ {b : Nat}, b ≤ 3 ^ n → cntS (n + 1) d (c * 3 ^ n + b) = cntS (n + 1) d (c * 3 ^ n) + if c ≤ d then cntS n (d - c) b else 0
  | 0, _ => by
    rw [Nat.add_zero, cntS_zero]
    split <;> rfl
  | b + 1, h => by
    rw [← Nat.add_assoc, cntS_succ, cntS_part hc (Nat.le_of_succ_le h), cntS_succ, Nat.add_comm (c * 3 ^ n) b, dsum_top h hc, Nat.add_assoc]
    congr 1
    by_cases k : c ≤ d
    · rw [if_pos k, if_pos k]
      congr 1
      by_cases e : dsum n b + c ≤ d
      · rw [if_pos e, if_pos (by omega)]
      · rw [if_neg e, if_neg (by omega)]
    · rw [if_neg k, if_neg k, if_neg (by omega)]
theorem cntS_rooms : ∀ (n d : Nat), cntS n d (3 ^ n) = Kzt3.rooms n d
  | 0, d => by
    rw [rooms_zero, Nat.pow_zero, cntS_succ, cntS_zero, if_pos (show dsum 0 0 ≤ d from Nat.zero_le d)]
  | n + 1, d => by
    have e0 := cntS_part (n := n) (d := d) (c := 0) (by decide) (Nat.le_refl (3 ^ n))
    have e1 := cntS_part (n := n) (d := d) (c := 1) (by decide) (Nat.le_refl (3 ^ n))
    have e2 := cntS_part (n := n) (d := d) (c := 2) (by decide) (Nat.le_refl (3 ^ n))
    have f0 : 0 * 3 ^ n + 3 ^ n = 1 * 3 ^ n := by omega
    have f1 : 1 * 3 ^ n + 3 ^ n = 2 * 3 ^ n := by omega
    have f2 : 2 * 3 ^ n + 3 ^ n = 3 ^ (n + 1) := by rw [Nat.pow_succ]; omega
    rw [f0, Nat.zero_mul, cntS_zero, if_pos (Nat.zero_le d), Nat.sub_zero, Nat.zero_add, cntS_rooms n d] at e0
    rw [f1, e0, cntS_rooms n (d - 1)] at e1
    rw [f2, e1, cntS_rooms n (d - 2)] at e2
    rw [e2, rooms_succ]
/-! ### the bound -/
theorem bound_at : Kzt3.bound 1 = 3 ∧ Kzt3.bound 2 = 9 ∧ Kzt3.bound 3 = 30 ∧ Kzt3.bound 4 = 45 := by decide +kernel
end Kz
namespace Kw
open PySem
def topS (i : Nat) : Stmt := PySem.Challenge.pw_nothreelines_s07_bound.main.body.getD i (.Pass ⟨0, 0, 0, 0⟩)
abbrev sHas : Stmt := topS 4
abbrev sCount : Stmt := topS 5
abbrev sNums : Stmt := topS 6
abbrev sRoom : Stmt := topS 7
abbrev sMain : Stmt := topS 3
end Kw
namespace Kw
open PySem PySem.Spec PyProof.Rows L2
open PySem.W (Codec)
theorem same_upd {H : Hp} {p : Addr} {o : HO} (h : H p = none) : Same H (upd H p o) := fun b x e => by
  rw [upd_ne (ne_of_none e h)]
  exact e
theorem if_t {c : Bool} {A B : Prop} (hc : c = true) (h : A) : if c = true then A else B := by
  rw [if_pos hc]
  exact h
theorem if_f {c : Bool} {A B : Prop} (hc : c = false) (h : B) : if c = true then A else B := by
  rw [hc, if_neg Bool.false_ne_true]
  exact h
def nV (l : List Nat) : List V := l.map fun (x : Nat) => V.int (x : Int)
theorem nV_len (l : List Nat) : (nV l).length = l.length := List.length_map ..
theorem nV_get {l : List Nat} {i : Nat} {y : V} (h : (nV l)[i]? = some y) : ∃ z : Nat, l[i]? = some z ∧ y = V.int (z : Int) := by
  unfold nV at h
  rw [List.getElem?_map] at h
  cases e : l[i]? with
  | none =>
    rw [e] at h
    cases h
  | some z =>
    rw [e] at h
    exact ⟨z, rfl, (Option.some.inj h).symm⟩
theorem nV_ints (l : List Nat) : (Kz.up l).map V.int = nV l := by
  unfold Kz.up nV
  rw [List.map_map]
  rfl
theorem pow_mul {i : Nat} (h : i ≤ 4) : CMul ((3 ^ i : Nat) : Int) 3 := .inr ⟨by decide, by decide⟩
theorem pow_div {i : Nat} (h : i ≤ 4) (x : Int) : CDiv x ((3 ^ i : Nat) : Int) := by
  have h1 := Kz.pow_pos3 i
  have h2 := Kz.pow_le81 h
  exact ⟨by omega, by omega⟩
theorem pow_mulR {i : Nat} (h : i ≤ 4) (x : Int) : CMul x ((3 ^ i : Nat) : Int) := by
  have h1 := Kz.pow_pos3 i
  have h2 := Kz.pow_le81 h
  exact .inr ⟨by omega, by omega⟩
section
variable {P : Program} {w : World} {K : PySem.W.Frag} {mg : Str → Option Value} {base : Heap}
/-! ### has_points -/
def spHas : Sp := fun vs H Q _ => ∃ n : Nat, vs = [.int n] ∧ Q (.bl (Kzt3.okN n)) H
theorem scHas : FnScope ["n"] ["n"] (defScope sHas) := ⟨rfl, rfl, rfl, by decide +kernel, rfl, by decide +kernel, by decide +kernel⟩
theorem ok_has {f : Addr} {fd : FuncData} {k : Nat} {t : Tok} (F : Fun K "has_points" "has_points" sHas f fd) (mM : mg "MOST_NUMBERS" = some (.int 4 t)) : FnOk P w K mg base CX0 (k + 1) f fd ["n"] spHas := by
  refine F.ok scHas (fun vs H Q E h => ?_) (fun cdv A outer s H vs Q E hr h => ?_)
  · obtain ⟨n, rfl, _⟩ := h
    rfl
  · obtain ⟨n, rfl, q⟩ := h
    refine ⟨_, pss_one (ps_ret (pe_and (pe_cmp (pc_le pe_int (pv 0))) (pe_one (pe_cmp (pc_le (pv 0) (pe_glob (v := .int 4) (by rfl) mM ⟨_, rfl⟩)))))), ?_⟩
    refine ⟨.int n, rfl, 1, n, rfl, rfl, _, rfl, ite2 (fun c => ?_) (fun c => ?_)⟩
    · have c1 : (1 : Int) ≤ (n : Int) := of_decide_eq_true c
      have e : Kzt3.okN n = decide ((n : Int) ≤ 4) := by
        unfold Kzt3.okN
        rw [decide_eq_true (show 1 ≤ n by omega), Bool.true_and]
        exact decide_eq_decide.mpr (by omega)
      rw [e] at q
      exact ⟨.int n, rfl, n, 4, rfl, rfl, q⟩
    · have c1 : ¬ (1 : Int) ≤ (n : Int) := fun z => c (decide_eq_true z)
      have e : Kzt3.okN n = false := by
        unfold Kzt3.okN
        rw [decide_eq_false (show ¬ 1 ≤ n by omega), Bool.false_and]
      rw [e] at q
      exact q
theorem okN_le {n : Nat} (h : Kzt3.okN n = true) : n ≤ 4 := by
  unfold Kzt3.okN at h
  rw [Bool.and_eq_true] at h
  exact of_decide_eq_true h.2
/-! ### point_count -/
def spCount : Sp := fun vs H Q _ => ∃ n : Nat, vs = [.int n] ∧ n ≤ 4 ∧ Q (.int ((3 ^ n : Nat) : Int)) H
theorem scCount : FnScope ["n", "count", "i"] ["n"] (defScope sCount) := ⟨rfl, rfl, rfl, by decide +kernel, rfl, by decide +kernel, by decide +kernel⟩
theorem ok_count {f : Addr} {fd : FuncData} {k : Nat} (F : Fun K "point_count" "point_count" sCount f fd) (mr : mg "range" = none) : FnOk P w K mg base CX0 (k + 1) f fd ["n"] spCount := by
  refine F.ok scCount (fun vs H Q E h => ?_) (fun cdv A outer s H vs Q E hr h => ?_)
  · obtain ⟨n, rfl, _⟩ := h
    rfl
  · obtain ⟨n, rfl, hn, q⟩ := h
    refine ⟨_, pss_cons (ps_set (i := 1) scCount.nd rfl (.inl rfl) pe_int)
      (pss_cons (ps_for PassesOwn.never rfl (pi_range1 (by rfl) mr (pa_cons (pv 0) pa_nil)) (pg_name (i := 2) scCount.nd rfl (.inl rfl))
        (pss_one (ps_set (i := 1) scCount.nd rfl (.inl rfl) (pe_op op_mul (pv 1) pe_int))))
      (pss_one (ps_ret (pv 1)))), ?_⟩
    refine ⟨_, rfl, (n : Int), rfl, by omega, by omega, ?_⟩
    refine for_range (lo := 0) (n := n) (fun i σ H' => ∃ v : Option V, σ = [some (.int n), some (.int ((3 ^ i : Nat) : Int)), v] ∧ H' = H) ⟨none, rfl, rfl⟩ ?_ ?_
    · rintro i σ H' hi ⟨v, rfl, rfl⟩
      refine ⟨_, rfl, ((3 ^ i : Nat) : Int), 3, rfl, rfl, pow_mul (by omega), some (.int (0 + i)), ?_, rfl⟩
      rw [← Kz.turn_pow]
      rfl
    · rintro σ H' ⟨v, rfl, rfl⟩
      exact ⟨_, rfl, q⟩
/-! ### numbers_of -/
theorem big_line {n : Nat} (h : n ≤ 100000) : n < sizeLine := Nat.lt_of_le_of_lt h (by decide)
/-- the numbers of a point -/
def digs (n x : Nat) : List Nat := (List.range n).map fun i => x / 3 ^ i % 3
theorem digs_succ (n x : Nat) : digs (n + 1) x = digs n x ++ [x / 3 ^ n % 3] := by
  unfold digs
  rw [List.range_succ, List.map_append]
  rfl
theorem digs_len (n x : Nat) : (digs n x).length = n := by
  unfold digs
  rw [List.length_map, List.length_range]
theorem digs_get {n x j : Nat} (h : j < n) : (digs n x)[j]? = some (x / 3 ^ j % 3) := by
  unfold digs
  rw [List.getElem?_map, List.getElem?_range h]
  rfl
theorem nV_one (l : List Nat) (i : Nat) : nV l ++ [.int (i : Int)] = nV (l ++ [i]) := by
  unfold nV
  rw [List.map_append]
  rfl
theorem turn_rest (x i : Nat) : x / 3 ^ i / 3 = x / 3 ^ (i + 1) := by rw [Nat.div_div_eq_div_mul, Nat.pow_succ]
def spNums : Sp := fun vs H Q _ => ∃ n x : Nat, vs = [.int n, .int x] ∧ n ≤ 4 ∧ ∀ (H' : Hp) (p : Addr), Same H H' → H' p = some (.lst (nV (digs n x))) → Q (.ref p) H'
theorem scNums : FnScope ["n", "point", "numbers", "rest", "i"] ["n", "point"] (defScope sNums) := ⟨rfl, rfl, rfl, by decide +kernel, rfl, by decide +kernel, by decide +kernel⟩
theorem ok_nums {f : Addr} {fd : FuncData} {k : Nat} (F : Fun K "numbers_of" "numbers_of" sNums f fd) (mr : mg "range" = none) : FnOk P w K mg base CX0 (k + 1) f fd ["n", "point"] spNums := by
  refine F.ok scNums (fun vs H Q E h => ?_) (fun cdv A outer s H vs Q E hr h => ?_)
  · obtain ⟨n, x, rfl, _⟩ := h
    rfl
  · obtain ⟨n, x, rfl, hn, q⟩ := h
    refine ⟨_, pss_cons (ps_set (i := 2) scNums.nd rfl (.inl rfl) (pe_lst pa_nil))
      (pss_cons (ps_set (i := 3) scNums.nd rfl (.inl rfl) (pv 1))
      (pss_cons (ps_for PassesOwn.never rfl (pi_range1 (by rfl) mr (pa_cons (pv 0) pa_nil)) (pg_name (i := 4) scNums.nd rfl (.inl rfl))
        (pss_cons (ps_expr (pe_bm PySem.F.plainAttrs_list PySem.F.slot_list_append PySem.F.type_list_append mt_append (pv 2) (pa_cons (pe_op op_mod (pv 3) pe_int) pa_nil)))
        (pss_one (ps_set (i := 3) scNums.nd rfl (.inl rfl) (pe_op op_fdiv (pv 3) pe_int)))))
      (pss_one (ps_ret (pv 2))))), ?_⟩
    refine ⟨Nat.zero_le _, fun o ho => ?_⟩
    refine ⟨_, rfl, ?_⟩
    refine ⟨_, rfl, (n : Int), rfl, by omega, by omega, ?_⟩
    refine for_range (lo := 0) (n := n) (fun i σ H' => ∃ v : Option V, σ = [some (.int n), some (.int x), some (.ref o), some (.int ((x / 3 ^ i : Nat) : Int)), v] ∧ Same H H' ∧ H' o = some (.lst (nV (digs i x)))) ⟨none, ?_, same_upd ho, upd_same⟩ ?_ ?_
    · rw [Nat.pow_zero, Nat.div_one]
      rfl
    · rintro i σ H' hi ⟨v, rfl, s5, eo⟩
      have h3 : (0 : Int) < 3 := by decide
      refine ⟨_, rfl, .inl ⟨rfl, _, SqL.of eo⟩, _, rfl, ((x / 3 ^ i : Nat) : Int), 3, rfl, rfl, h3, o, _, _, rfl, rfl, eo, ?_, ?_⟩
      · rw [nV_len, digs_len]
        exact big_line (by omega)
      · refine ⟨_, rfl, ((x / 3 ^ i : Nat) : Int), 3, rfl, rfl, ⟨by decide, by decide⟩, some (.int (0 + i)), ?_, fun b u e => ?_, ?_⟩
        · rw [← turn_rest]
          rfl
        · rw [upd_ne (ne_of_none e ho)]
          exact s5 b u e
        · rw [upd_same, digs_succ, ← nV_one]
          rfl
    · rintro σ H' ⟨v, rfl, s5, eo⟩
      exact ⟨_, rfl, q H' o s5 eo⟩
/-! ### room_count -/
theorem sum_snoc : ∀ (l : List Int) (a : Int), (l ++ [a]).sum = l.sum + a
  | [], a => by rw [List.nil_append, List.sum_cons, List.sum_nil, Int.add_zero, Int.zero_add]
  | b :: l, a => by rw [List.cons_append, List.sum_cons, sum_snoc l a, List.sum_cons, Int.add_assoc]
theorem up_one (l : List Nat) (i : Nat) : Kz.up (l ++ [i]) = Kz.up l ++ [(i : Int)] := by
  unfold Kz.up
  rw [List.map_append]
  rfl
theorem sum_digs (x : Nat) : ∀ n : Nat, (Kz.up (digs n x)).sum = ((Kz.dsum n x : Nat) : Int)
  | 0 => rfl
  | n + 1 => by
    rw [digs_succ, up_one, sum_snoc, sum_digs x n, ← Int.natCast_add]
    rfl
/-- the points below i that have d at most -/
def few (n d i : Nat) : List Nat := (List.range i).filter fun x => decide (Kz.dsum n x ≤ d)
theorem few_more (n d i : Nat) : few n d (i + 1) = few n d i ++ if Kz.dsum n i ≤ d then [i] else [] := by
  unfold few
  rw [List.range_succ, List.filter_append]
  congr 1
  rw [List.filter_cons, List.filter_nil]
  by_cases c : Kz.dsum n i ≤ d
  · rw [if_pos c, if_pos (decide_eq_true c)]
  · rw [if_neg c, if_neg fun z => c (of_decide_eq_true z)]
theorem few_len (n d i : Nat) : (few n d i).length ≤ i := by
  have q := List.length_filter_le (fun x => decide (Kz.dsum n x ≤ d)) (List.range i)
  rwa [List.length_range] at q
theorem cnt_lo (n : Nat) : -(2 ^ 62) ≤ ((3 ^ n : Nat) : Int) := Int.le_trans (by decide) (Int.natCast_nonneg (3 ^ n))
theorem cnt_hi {n : Nat} (h : n ≤ 4) : ((3 ^ n : Nat) : Int) < 2 ^ 62 := Int.lt_of_le_of_lt (Int.ofNat_le.mpr (Kz.pow_le81 h)) (by decide)
def spRoom : Sp := fun vs H Q _ => ∃ n d : Nat, vs = [.int n, .int d] ∧ n ≤ 4 ∧ ∀ H' : Hp, Same H H' → Q (.int ((Kzt3.rooms n d : Nat) : Int)) H'
theorem scRoom : FnScope ["n", "d", "point"] ["n", "d"] (defScope sRoom) := ⟨rfl, rfl, rfl, by decide +kernel, rfl, by decide +kernel, by decide +kernel⟩
theorem ok_room {f fC fN : Addr} {fd fdC fdN : FuncData} {k : Nat} (F : Fun K "room_count" "room_count" sRoom f fd) (GC : FnOk P w K mg base CX0 (k + 1) fC fdC ["n"] spCount) (gC : mg "point_count" = some (.ref fC)) (kC : PySem.W.keepIn K (.ref fC) = true) (bC : Binds K fdC ["n"] [])
    (GN : FnOk P w K mg base CX0 (k + 1) fN fdN ["n", "point"] spNums) (gN : mg "numbers_of" = some (.ref fN)) (kN : PySem.W.keepIn K (.ref fN) = true) (bN : Binds K fdN ["n", "point"] []) (mr : mg "range" = none) (ml : mg "len" = none) (ms : mg "sum" = none) :
    FnOk P w K mg base CX0 (k + 2) f fd ["n", "d"] spRoom := by
  refine F.ok scRoom (fun vs H Q E h => ?_) (fun cdv A outer s H vs Q E hr h => ?_)
  · obtain ⟨n, d, rfl, _⟩ := h
    rfl
  · obtain ⟨n, d, rfl, hn, q⟩ := h
    refine ⟨_, pss_one (ps_ret (pe_callB call_len_seq (by rfl) ml PySem.boot_len (pa_cons (pe_lc (own := [("point", 2)]) (g := gName 2) (by rfl) scRoom.nd (pi_range1 (by rfl) mr (pa_cons (pe_call GC hr (by rfl) gC kC bC .nil pass0 (pa_cons (pv 0) pa_nil)) pa_nil))
      (blkOk_by (own := [("point", 2)]) (N := ["n", "d", "point"]) (sc := defScope sRoom) (by decide +kernel)) (fun _ _ _ _ _ => pg_name (i := 2) scRoom.nd rfl (.inl rfl))
      (fun _ _ _ _ _ => pts_one (pt_cmp (pc_le (pe_callB (show CallR _ (.builtin "sum") (rSum K) from cr_sum rfl) (by rfl) ms (by decide +kernel) (pa_cons (pe_call GN hr (by rfl) gN kN bN .nil pass0 (pa_cons (pv 0) (pa_cons (pv 2) pa_nil))) pa_nil)) (pv 1))))
      (fun _ _ _ _ _ => pv 2)) pa_nil))), ?_⟩
    have h81 := Kz.pow_le81 hn
    refine ⟨_, rfl, n, rfl, hn, ((3 ^ n : Nat) : Int), rfl, cnt_lo n, cnt_hi hn, fun D hD => ?_⟩
    have s1 : Same H (upd H D (.lst [])) := same_upd hD
    refine lc_range (lo := 0) (n := 3 ^ n) (fun i H' => Same H H' ∧ H' D = some (.lst (nV (few n d i)))) ⟨s1, upd_same⟩ ?_ ?_
    · rintro i H' hi ⟨s5, eD⟩
      refine ⟨rfl, _, rfl, _, rfl, n, i, (by rw [Int.zero_add]; rfl), hn, fun H2 p s2 ep => ?_⟩
      have eD2 := s2 _ _ eD
      have s6 := s5.trans s2
      refine ⟨p, Kz.up (digs n i), rfl, SqL.of (by rw [nV_ints]; exact ep), _, rfl, (Kz.up (digs n i)).sum, d, rfl, rfl, _, rfl, ?_⟩
      have more := few_more n d i
      rw [sum_digs]
      by_cases c : Kz.dsum n i ≤ d
      · rw [if_pos c] at more
        refine if_t (decide_eq_true (Int.ofNat_le.mpr c)) ⟨_, rfl, nV (few n d i), eD2, ?_, ?_, ?_⟩
        · rw [nV_len]
          have := few_len n d i
          exact big_line (by omega)
        · intro b u e
          rw [upd_ne (ne_of_none e hD)]
          exact s6 b u e
        · rw [upd_same, more, ← nV_one, Int.zero_add]
      · rw [if_neg c, List.append_nil] at more
        refine if_f (decide_eq_false fun z => c (Int.ofNat_le.mp z)) ⟨s6, ?_⟩
        rw [more]
        exact eD2
    · rintro H' ⟨s5, eD⟩
      refine ⟨D, _, rfl, .inl (SqL.of eD), ?_⟩
      have e : (nV (few n d (3 ^ n))).length = Kzt3.rooms n d := by
        rw [nV_len, ← Kz.cntS_rooms]
        rfl
      rw [e]
      exact q H' s5
theorem okN_ge {n : Nat} (h : Kzt3.okN n = true) : 1 ≤ n := by
  unfold Kzt3.okN at h
  rw [Bool.and_eq_true] at h
  exact of_decide_eq_true h.1
/-! ### bound -/
theorem ans_bound (n : Nat) : PyKzt3.bound n = (Kzt3.answer (.bound n)).value :: (Kzt3.answer (.bound n)).nums := rfl
theorem bound_22 {n : Nat} (h : Kzt3.okN n = false) : PyKzt3.bound n = [-22] := by
  rw [ans_bound]
  unfold Kzt3.answer
  dsimp only
  rw [if_pos h]
  rfl
theorem bound_ok {n : Nat} (h : Kzt3.okN n = true) : PyKzt3.bound n = [3 * ((Kzt3.rooms n (2 * n / 3) : Nat) : Int)] := by
  rw [ans_bound]
  unfold Kzt3.answer
  dsimp only
  rw [if_neg (by rw [h]; decide)]
  rfl
def spMain (_ : PySem.W.Frag) : Sp := fun vs H Q _ => ∃ n : Nat, vs = [.int n] ∧ ∀ (H' : Hp) (p : Addr), H' p = some (.lst ((PyKzt3.bound n).map V.int)) → Q (.ref p) H'
theorem scMain : FnScope ["n"] ["n"] (defScope sMain) := ⟨rfl, rfl, rfl, by decide +kernel, rfl, by decide +kernel, by decide +kernel⟩
theorem ok_main {f fH fR : Addr} {fd fdH fdR : FuncData} {tU : Tok} (F : Fun K "bound" "bound" sMain f fd)
    (GH : FnOk P w K mg base CX0 2 fH fdH ["n"] spHas) (gH : mg "has_points" = some (.ref fH)) (kH : PySem.W.keepIn K (.ref fH) = true) (bH : Binds K fdH ["n"] [])
    (GR : FnOk P w K mg base CX0 2 fR fdR ["n", "d"] spRoom) (gR : mg "room_count" = some (.ref fR)) (kR : PySem.W.keepIn K (.ref fR) = true) (bR : Binds K fdR ["n", "d"] [])
    (mU : mg "UNFIT" = some (.int (-22) tU)) :
    FnOk P w K mg base CX0 3 f fd ["n"] (spMain K) := by
  refine F.ok scMain (fun vs H Q E h => ?_) (fun cdv A outer s H vs Q E hr h => ?_)
  · obtain ⟨n, rfl, _⟩ := h
    rfl
  · obtain ⟨n, rfl, q⟩ := h
    refine ⟨_, pss_cons (ps_if (pt_not (pt_val (pe_call GH hr (by rfl) gH kH bH .nil pass0 (pa_cons (pv 0) pa_nil)))) (pss_one (ps_ret (pe_lst (pa_cons (pe_glob (v := .int (-22)) (by rfl) mU ⟨_, rfl⟩) pa_nil)))) pss_nil)
      (pss_one (ps_ret (pe_lst (pa_cons (pe_op op_mul pe_int (pe_call GR hr (by rfl) gR kR bR .nil pass0 (pa_cons (pv 0) (pa_cons (pe_op op_fdiv (pe_op op_mul pe_int (pv 0)) pe_int) pa_nil)))) pa_nil)))), ?_⟩
    have one : 1 ≤ sizeLine := by decide
    refine ⟨_, rfl, n, rfl, _, rfl, ?_⟩
    cases hN : Kzt3.okN n with
    | false =>
      refine iteT ⟨one, fun p hp => q _ p ?_⟩
      rw [bound_22 hN]
      exact upd_same
    | true =>
      refine iteF ?_
      refine ⟨_, rfl, _, rfl, 2, n, rfl, rfl, .inl ⟨by decide, by decide⟩, _, 3, rfl, rfl, ⟨by decide, by decide⟩, n, 2 * n / 3, ?_, okN_le hN, fun H1 s1 => ?_⟩
      · rfl
      · refine ⟨3, _, rfl, rfl, .inl ⟨by decide, by decide⟩, one, fun p hp => q _ p ?_⟩
        rw [bound_ok hN]
        exact upd_same
end
/-! ### what the top has written -/
theorem all_mk {P : Program} {w : World} {K : PySem.W.Frag} {h : Heap} {mg : Str → Option Value} {fa f0 f1 f2 f3 f4 : Addr} (X : K.In h) (G : h.Ns mainGlobals mg) (hfa : mg "bound" = some (.ref fa))
    {od0 an0 od1 an1 od2 an2 od3 an3 od4 an4 : Option Addr} {sl0 sl1 sl2 sl3 sl4 : Array (Option Value)} {oc0 kV0 dc0 pm0 cd0 ct0 oc1 kV1 dc1 pm1 cd1 ct1 oc2 kV2 dc2 pm2 cd2 ct2 oc3 kV3 dc3 pm3 cd3 ct3 oc4 kV4 dc4 pm4 cd4 ct4 : Value}
    {t0 t1 : Tok}
    (a0 : PySem.W.nsIn K mainGlobals "has_points" = some (some (.ref f0))) (l0 : K.lookup f0 = some ⟨oc0, od0, .func (PySem.W.fnOf "has_points" "has_points" (defArgs sHas) (defBody sHas) (defScope sHas) .none kV0 dc0 pm0 an0 cd0 ct0), sl0⟩) (c0 : PySem.W.codeIn K cd0 "has_points" = true) (k0 : PySem.W.keepIn K (.ref f0) = true)
    (a1 : PySem.W.nsIn K mainGlobals "point_count" = some (some (.ref f1))) (l1 : K.lookup f1 = some ⟨oc1, od1, .func (PySem.W.fnOf "point_count" "point_count" (defArgs sCount) (defBody sCount) (defScope sCount) .none kV1 dc1 pm1 an1 cd1 ct1), sl1⟩) (c1 : PySem.W.codeIn K cd1 "point_count" = true) (k1 : PySem.W.keepIn K (.ref f1) = true)
    (a2 : PySem.W.nsIn K mainGlobals "numbers_of" = some (some (.ref f2))) (l2 : K.lookup f2 = some ⟨oc2, od2, .func (PySem.W.fnOf "numbers_of" "numbers_of" (defArgs sNums) (defBody sNums) (defScope sNums) .none kV2 dc2 pm2 an2 cd2 ct2), sl2⟩) (c2 : PySem.W.codeIn K cd2 "numbers_of" = true) (k2 : PySem.W.keepIn K (.ref f2) = true)
    (a3 : PySem.W.nsIn K mainGlobals "room_count" = some (some (.ref f3))) (l3 : K.lookup f3 = some ⟨oc3, od3, .func (PySem.W.fnOf "room_count" "room_count" (defArgs sRoom) (defBody sRoom) (defScope sRoom) .none kV3 dc3 pm3 an3 cd3 ct3), sl3⟩) (c3 : PySem.W.codeIn K cd3 "room_count" = true) (k3 : PySem.W.keepIn K (.ref f3) = true)
    (a4 : PySem.W.nsIn K mainGlobals "bound" = some (some (.ref f4))) (l4 : K.lookup f4 = some ⟨oc4, od4, .func (PySem.W.fnOf "bound" "bound" (defArgs sMain) (defBody sMain) (defScope sMain) .none kV4 dc4 pm4 an4 cd4 ct4), sl4⟩) (c4 : PySem.W.codeIn K cd4 "bound" = true) (k4 : PySem.W.keepIn K (.ref f4) = true)
    (u0 : PySem.W.nsIn K mainGlobals "UNFIT" = some (some (.int (-22) t0)))
    (u1 : PySem.W.nsIn K mainGlobals "MOST_NUMBERS" = some (some (.int (4) t1)))
    (z0 : PySem.W.nsIn K mainGlobals "range" = some none)
    (z1 : PySem.W.nsIn K mainGlobals "len" = some none)
    (z2 : PySem.W.nsIn K mainGlobals "sum" = some none) :
    ∃ fd : FuncData, (∀ (s : Shared) (us : List Value), us.length = (["n"] : List Str).length → BindsTo s fd ⟨us, []⟩ ((["n"] : List Str).zip us)) ∧ ∀ base : Heap, K.In base → base.Ns mainGlobals mg → FnOk P w K mg base CX0 3 fa fd ["n"] (spMain K) := by
  have e := hfa.symm.trans (PySem.W.mg_of X G a4)
  cases e
  have FHas := fun_mk (st := sHas) l0 c0 k0
  have bHas := FHas.binds (ps := ["n"]) fun _ _ _ _ _ _ us hl => match us, hl with | [_], _ => rfl
  have gHas := PySem.W.mg_of X G a0
  have kHas := k0
  have FCount := fun_mk (st := sCount) l1 c1 k1
  have bCount := FCount.binds (ps := ["n"]) fun _ _ _ _ _ _ us hl => match us, hl with | [_], _ => rfl
  have gCount := PySem.W.mg_of X G a1
  have kCount := k1
  have FNums := fun_mk (st := sNums) l2 c2 k2
  have bNums := FNums.binds (ps := ["n", "point"]) fun _ _ _ _ _ _ us hl => match us, hl with | [_, _], _ => rfl
  have gNums := PySem.W.mg_of X G a2
  have kNums := k2
  have FRoom := fun_mk (st := sRoom) l3 c3 k3
  have bRoom := FRoom.binds (ps := ["n", "d"]) fun _ _ _ _ _ _ us hl => match us, hl with | [_, _], _ => rfl
  have gRoom := PySem.W.mg_of X G a3
  have kRoom := k3
  have FMain := fun_mk (st := sMain) l4 c4 k4
  have m_UNFIT := PySem.W.mg_of X G u0
  have m_MOST_NUMBERS := PySem.W.mg_of X G u1
  have m_range := PySem.W.mg_none_of X G z0
  have m_len := PySem.W.mg_none_of X G z1
  have m_sum := PySem.W.mg_none_of X G z2
  refine ⟨PySem.W.fnOf "bound" "bound" (defArgs sMain) (defBody sMain) (defScope sMain) .none kV4 dc4 pm4 an4 cd4 ct4, fun s us hu => match us, hu with | [_], _ => .of_eq rfl, fun base _ _ => ?_⟩
  exact ok_main FMain (ok_has (k := 1) FHas m_MOST_NUMBERS) gHas kHas bHas (ok_room (k := 0) FRoom (ok_count FCount m_range) gCount kCount bCount (ok_nums FNums m_range) gNums kNums bNums m_range m_len m_sum) gRoom kRoom bRoom m_UNFIT
end Kw
open PySem PySem.W PyProof.Rows
set_option maxRecDepth 100000 in
set_option maxHeartbeats 8000000 in
theorem PySem.Challenge.cw_nothreelines_s07_bound_holds : PySem.Challenge.rw_nothreelines_s07_bound.Holds := by
  w_on; k_headS; (case hw => exact ⟨[.int 0], by decide +kernel, by decide +kernel⟩)
  k_fillS
  refine L2.walk_specK (r := PySem.Challenge.rw_nothreelines_s07_bound) (k := 3) (CX := L2.CX0) (ps := ["n"]) (sp := Kw.spMain) (by decide +kernel) rfl rfl ⟨rfl, by decide, by decide⟩ (fun w h Y => PySem.W.kIn_of Y) ?F ?S (fun _ _ _ _ z => z)
  case F =>
    intro w mg fa h Y KX G hmg
    refine' Kw.all_mk KX G hmg ?a0 ?l0 ?c0 ?k0 ?a1 ?l1 ?c1 ?k1 ?a2 ?l2 ?c2 ?k2 ?a3 ?l3 ?c3 ?k3 ?a4 ?l4 ?c4 ?k4 ?u0 ?u1 ?z0 ?z1 ?z2
    (case a0 => k_is)
    (case l0 => k_is)
    (case c0 => k_is)
    (case k0 => k_is)
    (case a1 => k_is)
    (case l1 => k_is)
    (case c1 => k_is)
    (case k1 => k_is)
    (case a2 => k_is)
    (case l2 => k_is)
    (case c2 => k_is)
    (case k2 => k_is)
    (case a3 => k_is)
    (case l3 => k_is)
    (case c3 => k_is)
    (case k3 => k_is)
    (case a4 => k_is)
    (case l4 => k_is)
    (case c4 => k_is)
    (case k4 => k_is)
    (case u0 => k_is)
    (case u1 => k_is)
    (case z0 => k_is)
    (case z1 => k_is)
    (case z2 => k_is)
  case S =>
    intro K H xs a hO hwi hask hx
    have q : (Codec.inInt 0 4294967295 a.1 && true) = true := hwi
    rw [Bool.and_eq_true] at q
    have q1 := (Codec.inInt_iff.mp q.1).1
    obtain ⟨n, u⟩ := a
    obtain ⟨n, rfl⟩ := Int.eq_ofNat_of_zero_le (show 0 ≤ n from q1)
    cases hx with
    | cons h1 h2 =>
      cases h1
      cases h2
      exact ⟨n, rfl, fun H' p hp => .lst (L2.SqL.of hp) (L2.dw_ints _)⟩
#print axioms PySem.Challenge.cw_nothreelines_s07_bound_holds
