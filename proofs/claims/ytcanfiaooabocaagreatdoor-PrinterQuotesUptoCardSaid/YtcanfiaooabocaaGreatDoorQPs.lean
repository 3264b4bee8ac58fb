/-
  Contract of the scan's number.
  A text as the page of layer 9 has it printed, and that it is read as itself. Pure, no program.
  A value as the page of layer 9 has it printed, in one line or in lines, and that it is read as itself. Pure, no program.
  A value as the page of layer 9 has it printed is read as itself: lists and objects. Pure, no program.
  A value that was printed is read as itself: the whole of it, and what the reader's Read makes of it. Pure, no program.
  Characters as the page has them printed in octets below 80 alone: each is read as itself. Pure, no program.
  What is printed in one line has no white space outside of texts; in octets below 80 there are none above. Pure, no program.
-/
import Derived.Test.YtcanfiaooabocaaGreatDoorQLlo
import Derived.Test.YtcanfiaooabocaaGreatDoorQRloc
import Derived.Test.YtcanfiaooabocaaGreatDoorQNlimb
import Derived.Shelf.Strings.BuilderRune
import Derived.Shelf.Spec.DecodeRune
import Derived.WalkKit
import Derived.Test.YtcanfiaooabocaaGreatDoorQDset
import Derived.Test.YtcanfiaooabocaaGreatDoorQDop
import Derived.Laws.Concat
import Derived.Test.YtcanfiaooabocaaGreatDoorQNparse
import Derived.PlainAid
import Derived.Test.YtcanfiaooabocaaGreatDoorQNrefe
import Derived.Deep.AppendLies
import Derived.Deep.RegionHeld3
import Derived.Test.YtcanfiaooabocaaGreatDoorQDprt
import Derived.Test.YtcanfiaooabocaaGreatDoorQDrprt
import Derived.Test.YtcanfiaooabocaaGreatDoorQDref
import Derived.Test.YtcanfiaooabocaaGreatDoorQDbn
import Derived.Deep.QuietTactic
import Derived.BigQuiet
import Derived.Deep.Cut
import Derived.Deep.CutRange
import Derived.Laws.EntriesVeiled
import Derived.Test.YtcanfiaooabocaaGreatDoorQVbas
import Derived.Test.YtcanfiaooabocaaGreatDoorQUfst
import Derived.Test.YtcanfiaooabocaaGreatDoorQUfirst
import Derived.Laws.BytesArg
import Derived.Test.YtcanfiaooabocaaGreatDoorQDintc
set_option linter.unusedVariables false
set_option linter.unusedSimpArgs false
namespace Go.Proofs.YtcanfiaooabocaaGreatDoor
open Go.RowKit Go.Lib
variable {B : Nat} {L : List UInt8} {A : Option Addr} {c sb : Nat}

theorem set_heap {w : World} {b i : Nat} {u : Value} {vs : Array Value} {t : TypeId} (h : w.heap[b]? = some (.cells vs t)) : (w.setCell ⟨b, i, none⟩ u).heap[b]? = some (.cells (vs.setIfInBounds i u) t) := by
  show (w.heap.modify b _)[b]? = _
  rw [Array.getElem?_modify, if_pos rfl, h]
  rfl
end Go.Proofs.YtcanfiaooabocaaGreatDoor

namespace Go.Proofs.YtcanfiaooabocaaGreatDoor
open Go.Lib

def hxD (n : Nat) : UInt8 := if n < 10 then UInt8.ofNat (48 + n) else UInt8.ofNat (87 + n)
/-- A character of a text, printed. -/
def quoteC (c : Int) : List UInt8 :=
  if c = 34 then [92, 34] else if c = 92 then [92, 92] else if c = 8 then [92, 98] else if c = 9 then [92, 116] else if c = 10 then [92, 110]
  else if c = 12 then [92, 102] else if c = 13 then [92, 114]
  else if c < 32 ∨ c = 127 then [92, 117, 48, 48, hxD (c.toNat / 16), hxD (c.toNat % 16)] else encodeRune c
theorem char_plain {c : Int} (h : isCh c) (h32 : 32 ≤ c) (h92 : c ≠ 92) (r : List UInt8) : rChar (encodeRune c ++ r) 0 = .ok c (encodeRune c).length := by
  obtain ⟨p1, p2⟩ := part_enc h r
  have hne := enc_ne c r
  have hc : c ≠ -1 := by unfold isCh at h; omega
  have hf : fullL (encodeRune c ++ r) = true := full_part hne (by rw [p1]; exact hc)
  unfold rChar rAt rPeek
  cases hx : encodeRune c ++ r with
  | nil => exact absurd hx hne
  | cons a t =>
    have ha : a ≠ 92 ∧ ¬ a < 32 := by
      have hd : decodeL (a :: t) = (c.toNat, (encodeRune c).length) := by rw [← hx]; exact decode_enc h r
      rw [decodeL_N] at hd
      have g0 : (a :: t).getD 0 0 = a := rfl
      rw [g0] at hd
      by_cases hlt : a.toNat < 128
      · have e : decodeN (a :: t).length a.toNat ((a :: t).getD 1 0).toNat ((a :: t).getD 2 0).toNat ((a :: t).getD 3 0).toNat = (a.toNat, 1) := by unfold decodeN; rw [if_pos hlt]
        rw [e] at hd
        injection hd with hd1 _
        have hcc : 0 ≤ c := by omega
        refine ⟨fun e => ?_, fun e => ?_⟩
        · have := (u8_eq a 92 (by omega)).1 e; omega
        · have := (u8_lt a 32 (by omega)).1 e; omega
      · refine ⟨fun e => ?_, fun e => ?_⟩
        · have := (u8_eq a 92 (by omega)).1 e; omega
        · have := (u8_lt a 32 (by omega)).1 e; omega
    simp only [List.getElem?_cons_zero, RR.bind]
    rw [if_neg (by simpa using ha.1), if_neg ha.2, List.drop_zero, ← hx, if_pos hf, p1, if_neg hc, p2, Nat.zero_add]
theorem char_low (n : Nat) (h : n < 32 ∨ n = 34 ∨ n = 92 ∨ n = 127) (r : List UInt8) : rChar (quoteC (n : Int) ++ r) 0 = .ok (n : Int) (quoteC (n : Int)).length := by
  have hc : n = 0 ∨ n = 1 ∨ n = 2 ∨ n = 3 ∨ n = 4 ∨ n = 5 ∨ n = 6 ∨ n = 7 ∨ n = 8 ∨ n = 9 ∨ n = 10 ∨ n = 11 ∨ n = 12 ∨ n = 13 ∨ n = 14 ∨ n = 15 ∨ n = 16 ∨ n = 17 ∨ n = 18 ∨ n = 19 ∨ n = 20 ∨ n = 21 ∨ n = 22 ∨ n = 23 ∨ n = 24 ∨ n = 25 ∨ n = 26 ∨ n = 27 ∨ n = 28 ∨ n = 29 ∨ n = 30 ∨ n = 31 ∨ n = 34 ∨ n = 92 ∨ n = 127 := by omega
  rcases hc with rfl | rfl | rfl | rfl | rfl | rfl | rfl | rfl | rfl | rfl | rfl | rfl | rfl | rfl | rfl | rfl | rfl | rfl | rfl | rfl | rfl | rfl | rfl | rfl | rfl | rfl | rfl | rfl | rfl | rfl | rfl | rfl | rfl | rfl | rfl <;> rfl
theorem char_back {c : Int} (h : isCh c) (r : List UInt8) : rChar (quoteC c ++ r) 0 = .ok c (quoteC c).length := by
  by_cases hl : c < 32 ∨ c = 34 ∨ c = 92 ∨ c = 127
  · have h0 : 0 ≤ c := by unfold isCh at h; omega
    obtain ⟨n, rfl⟩ : ∃ n : Nat, c = (n : Int) := ⟨c.toNat, by omega⟩
    exact char_low n (by omega) r
  · have e : quoteC c = encodeRune c := by
      unfold quoteC
      rw [if_neg (by omega), if_neg (by omega), if_neg (by omega), if_neg (by omega), if_neg (by omega), if_neg (by omega), if_neg (by omega), if_neg (by omega)]
    rw [e]
    exact char_plain h (by omega) (by omega) r
theorem quote_head {c : Int} (h : isCh c) : ∃ x t, quoteC c = x :: t ∧ x ≠ 34 := by
  by_cases hl : c < 32 ∨ c = 34 ∨ c = 92 ∨ c = 127
  · unfold quoteC
    repeat' split
    all_goals first
      | exact ⟨92, _, rfl, by decide⟩
      | (exfalso; omega)
  · have e : quoteC c = encodeRune c := by
      unfold quoteC
      rw [if_neg (by omega), if_neg (by omega), if_neg (by omega), if_neg (by omega), if_neg (by omega), if_neg (by omega), if_neg (by omega), if_neg (by omega)]
    rw [e]
    cases hx : encodeRune c with
    | nil => exact absurd (by rw [List.append_nil]; exact hx) (enc_ne c [])
    | cons a t =>
      refine ⟨a, t, rfl, fun e34 => ?_⟩
      have hd := decode_enc h []
      rw [List.append_nil, hx, decodeL_N] at hd
      have g0 : (a :: t).getD 0 0 = a := rfl
      have h34 := (u8_eq a 34 (by omega)).1 e34
      rw [g0] at hd
      have e : decodeN (a :: t).length a.toNat ((a :: t).getD 1 0).toNat ((a :: t).getD 2 0).toNat ((a :: t).getD 3 0).toNat = (a.toNat, 1) := by unfold decodeN; rw [if_pos (by omega)]
      rw [e] at hd
      injection hd with hd1 _
      unfold isCh at h
      omega
end Go.Proofs.YtcanfiaooabocaaGreatDoor

namespace Go.Proofs.YtcanfiaooabocaaGreatDoor
open Go.Lib

/-- How characters are printed: each is read as itself. -/
structure QcOk (qc : Int → List UInt8) : Prop where
  back : ∀ {c}, isCh c → ∀ r, rChar (qc c ++ r) 0 = .ok c (qc c).length
  head : ∀ {c}, isCh c → ∃ x t, qc c = x :: t ∧ x ≠ 34
def qL (qc : Int → List UInt8) (cs : List Int) : List UInt8 := cs.flatMap qc
theorem qL_cons (qc : Int → List UInt8) (c : Int) (cs : List Int) : qL qc (c :: cs) = qc c ++ qL qc cs := rfl
theorem charsQ {qc : Int → List UInt8} (H : QcOk qc) : ∀ (cs : List Int) (n : Nat) (acc r : List UInt8), (∀ c ∈ cs, isCh c) → cs.length < n → rChars n acc (qL qc cs ++ 34 :: r) 0 = .ok (acc ++ enc cs) ((qL qc cs).length + 1)
  | [], n + 1, acc, r, _, _ => by
    unfold rChars rAt rPeek
    simp [qL, enc, RR.bind]
  | [], 0, acc, r, _, hn => absurd hn (by simp)
  | c :: cs, 0, acc, r, _, hn => absurd hn (by simp)
  | c :: cs, n + 1, acc, r, hc, hn => by
    have h1 := hc c (by simp)
    have ih := charsQ H cs n (acc ++ encodeRune c) r (fun d hd => hc d (by simp [hd])) (by rw [List.length_cons] at hn; omega)
    obtain ⟨x, t, hx, hx34⟩ := H.head h1
    have hb := H.back h1 (qL qc cs ++ 34 :: r)
    have hs : rChars n (acc ++ encodeRune c) (qc c ++ (qL qc cs ++ 34 :: r)) ((qc c).length + 0) = (rChars n (acc ++ encodeRune c) (qL qc cs ++ 34 :: r) 0).shift (qc c).length := Shift.chars n (acc ++ encodeRune c) 0 (qc c) (qL qc cs ++ 34 :: r) 0
    rw [Nat.add_zero, ih] at hs
    rw [qL_cons, List.append_assoc]
    unfold rChars
    have hp : rPeek (qc c ++ (qL qc cs ++ 34 :: r)) 0 = .ok x 0 := by rw [hx]; rfl
    unfold rAt
    rw [hp]
    simp only [RR.bind]
    rw [if_neg (by simpa using hx34), hb]
    simp only [RR.bind]
    rw [hs]
    simp only [RR.shift]
    rw [enc_cons, ← List.append_assoc, List.length_append, Nat.add_assoc]
theorem pcs_gd (l : List UInt8) : ∀ p ∈ pcs l, p.2 ≠ -1 → isCh p.2 ∧ p.1 = encodeRune p.2 := by
  refine text_ind (p := fun l => ∀ p ∈ pcs l, p.2 ≠ -1 → isCh p.2 ∧ p.1 = encodeRune p.2) (fun p h => by cases h) (fun l hl ih => ?_) l
  intro p hp hn
  rw [pcs_cons hl, List.mem_cons] at hp
  rcases hp with rfl | hp
  · rcases part_cases hl with ⟨h, _⟩ | ⟨_, h1, h2, _⟩
    · exact absurd h hn
    · exact ⟨h1, h2⟩
  · exact ih p hp hn
theorem flat_same {α β : Type} (f g : α → List β) : ∀ l : List α, (∀ x ∈ l, f x = g x) → l.flatMap f = l.flatMap g
  | [], _ => rfl
  | x :: l, h => by rw [List.flatMap_cons, List.flatMap_cons, h x (by simp), flat_same f g l (fun y hy => h y (by simp [hy]))]
theorem charsT {l : List UInt8} (h : isT l = true) : enc ((pcs l).map (·.2)) = l ∧ ∀ c ∈ (pcs l).map (·.2), isCh c := by
  rw [isT_iff] at h
  refine ⟨?_, fun c hc => ?_⟩
  · conv => rhs; rw [← pcs_flat l]
    unfold enc
    rw [List.flatMap_map]
    refine flat_same _ _ _ fun p hp => ?_
    exact (pcs_gd l p hp (h p hp)).2.symm
  · rw [List.mem_map] at hc
    obtain ⟨p, hp, rfl⟩ := hc
    exact (pcs_gd l p hp (h p hp)).1
/-- A text, printed. -/
def txtL (qc : Int → List UInt8) (s : ByteArray) : List UInt8 := 34 :: (qL qc ((pcs s.data.toList).map (·.2)) ++ [34])
theorem textQ {qc : Int → List UInt8} (H : QcOk qc) {s : ByteArray} (hT : isT s.data.toList = true) (hs : s.size ≤ 16384) (r : List UInt8) : rText (txtL qc s ++ r) 0 = .ok s (txtL qc s).length := by
  have hlen : ∀ l : List Int, l.length ≤ (enc l).length := fun l => by
    induction l with
    | nil => simp
    | cons c l ih => rw [enc_cons, List.length_append, List.length_cons]; have := enc_len c; omega
  have he := (charsT hT).1
  have hel : (enc ((pcs s.data.toList).map (·.2))).length ≤ 16384 := by rw [he, Array.length_toList]; exact hs
  have h1 := charsQ H ((pcs s.data.toList).map (·.2)) fuelR [] r (charsT hT).2 (by unfold fuelR; have := hlen ((pcs s.data.toList).map (·.2)); omega)
  have hsh : rChars fuelR [] ([34] ++ (qL qc ((pcs s.data.toList).map (·.2)) ++ 34 :: r)) (1 + 0) = (rChars fuelR [] (qL qc ((pcs s.data.toList).map (·.2)) ++ 34 :: r) 0).shift 1 := Shift.chars fuelR [] 0 [34] (qL qc ((pcs s.data.toList).map (·.2)) ++ 34 :: r) 0
  rw [h1] at hsh
  unfold rText
  rw [show txtL qc s ++ r = [34] ++ (qL qc ((pcs s.data.toList).map (·.2)) ++ 34 :: r) from by simp [txtL], show 0 + 1 = 1 + 0 from rfl, hsh]
  simp only [RR.shift, RR.bind, List.nil_append]
  rw [if_neg (by omega), he]
  congr 1
  simp [txtL]
  omega
theorem Qc_plain : QcOk quoteC := ⟨fun h r => char_back h r, fun h => quote_head h⟩

/-- A new line, if there is more than one. -/
def lineL (st o : Nat) : List UInt8 := if st = 0 then [] else 10 :: List.replicate (st * o) 32
/-- What stands behind an item: another one, or the end. -/
def itT {α : Type} (st o : Nat) (en : UInt8) : Bool → List (α × List UInt8) → List UInt8
  | _, [] => [en]
  | first, x :: r => (if first then [] else 44 :: lineL st (o + 1)) ++ (x.2 ++ ((if r.isEmpty then lineL st o else []) ++ itT st o en false r))
end Go.Proofs.YtcanfiaooabocaaGreatDoor

namespace Go.Proofs.YtcanfiaooabocaaGreatDoor
open Go.Lib

mutual
/-- A value, printed, with so many lists and objects open. -/
def prV (qc : Int → List UInt8) (nt : Bool → List Nat → Int → List UInt8) (st : Nat) (o : Nat) : VT → List UInt8
  | .mk k n xs e t l ks =>
    if k = 1 then [102, 97, 108, 115, 101] else if k = 2 then [116, 114, 117, 101] else if k = 3 then nt n xs e else if k = 4 then txtL qc t
    else if k = 5 then 91 :: ((if l.isEmpty then [] else lineL st (o + 1)) ++ itT st o 93 true (prI qc nt st o l))
    else if k = 6 then 123 :: ((if l.isEmpty then [] else lineL st (o + 1)) ++ itT st o 125 true (prK qc nt st o l ks))
    else [110, 117, 108, 108]
def prI (qc : Int → List UInt8) (nt : Bool → List Nat → Int → List UInt8) (st : Nat) (o : Nat) : List VT → List (VT × List UInt8)
  | [] => []
  | v :: r => (v, prV qc nt st (o + 1) v) :: prI qc nt st o r
def prK (qc : Int → List UInt8) (nt : Bool → List Nat → Int → List UInt8) (st : Nat) (o : Nat) : List VT → List ByteArray → List ((ByteArray × VT) × List UInt8)
  | [], _ => []
  | v :: r, ks => ((ks.headD ⟨#[]⟩, v), txtL qc (ks.headD ⟨#[]⟩) ++ ([58] ++ ((if st = 0 then [] else [32]) ++ prV qc nt st (o + 1) v))) :: prK qc nt st o r ks.tail
end

/-- How numbers are printed: each is read as itself. -/
def NtOk (nt : Bool → List Nat → Int → List UInt8) : Prop := ∀ {n xs e}, L32 xs → okB n xs e = true → fE ((nt n xs e).map (·.toNat)) = 0 ∧ fN ((nt n xs e).map (·.toNat)) = n ∧ fX ((nt n xs e).map (·.toNat)) = e ∧ fZ ((nt n xs e).map (·.toNat)) = xs ∧
  ∃ c t, nt n xs e = c :: t ∧ (c = 45 ∨ isDg c = true)
/-- A value all of whose parts may be by themselves, with limbs that are some. -/
def Gp (x : VT) : Prop := ∀ y ∈ partsV x, alone y = 0 ∧ L32 y.num
theorem Gp.sub {x z : VT} (h : Gp x) (hz : z ∈ x.inner) : Gp z := fun y hy => h y (by rw [parts_eq]; exact List.mem_cons_of_mem _ (List.mem_flatMap.2 ⟨z, hz, hy⟩))
theorem Gp.own {x : VT} (h : Gp x) : alone x = 0 ∧ L32 x.num := h x (by rw [parts_eq]; exact List.mem_cons_self)
theorem rAt_ok {α β : Type} {F : Rd1 α} {G : α → Rd1 β} {b : List UInt8} {p q : Nat} {a : α} (h : F b p = .ok a q) : rAt F G b p = G a b q := by
  unfold rAt; rw [h]; rfl
theorem prI_map {qc : Int → List UInt8} {nt : Bool → List Nat → Int → List UInt8} {st o : Nat} : ∀ l : List VT, (prI qc nt st o l).map (·.1) = l ∧ (prI qc nt st o l).length = l.length
  | [] => by unfold prI; exact ⟨rfl, rfl⟩
  | v :: r => by
    have ih := prI_map (qc := qc) (nt := nt) (st := st) (o := o) r
    unfold prI
    exact ⟨by rw [List.map_cons, ih.1], by rw [List.length_cons, List.length_cons, ih.2]⟩
theorem prK_map {qc : Int → List UInt8} {nt : Bool → List Nat → Int → List UInt8} {st o : Nat} : ∀ (l : List VT) (ks : List ByteArray), ks.length = l.length → (prK qc nt st o l ks).map (·.1) = ks.zip l ∧ (prK qc nt st o l ks).length = l.length
  | [], [], _ => by unfold prK; exact ⟨rfl, rfl⟩
  | [], s :: ks, hk => by simp at hk
  | v :: r, [], hk => by simp at hk
  | v :: r, s :: ks, hk => by
    have ih := prK_map (qc := qc) (nt := nt) (st := st) (o := o) r ks (by simpa using hk)
    unfold prK
    exact ⟨by rw [List.map_cons, show (s :: ks).tail = ks from rfl, ih.1]; rfl, by rw [List.length_cons, List.length_cons, show (s :: ks).tail = ks from rfl, ih.2]⟩
end Go.Proofs.YtcanfiaooabocaaGreatDoor

namespace Go.Proofs.YtcanfiaooabocaaGreatDoor
open Go.Lib

theorem head_low {c : UInt8} (h : c = 45 ∨ isDg c = true) : isWs c = false ∧ (c == 91) = false ∧ (c == 123) = false ∧ (c == 34) = false ∧ (c == 110) = false ∧ (c == 102) = false ∧ (c == 116) = false ∧ (isDg c || (c == 34 || c == 45 || c == 110 || c == 102 || c == 116)) = true ∧ c ≠ 93 ∧ c ≠ 125 := by
  have key : ∀ x : UInt8, (!(x == 45 || isDg x) || (!isWs x && !(x == 91) && !(x == 123) && !(x == 34) && !(x == 110) && !(x == 102) && !(x == 116) && (isDg x || (x == 34 || x == 45 || x == 110 || x == 102 || x == 116)) && !(x == 93) && !(x == 125))) = true := fun x => by
    have h1 := List.all_eq_true.1 (show (List.range 256).all (fun n => (fun x : UInt8 => (!(x == 45 || isDg x) || (!isWs x && !(x == 91) && !(x == 123) && !(x == 34) && !(x == 110) && !(x == 102) && !(x == 116) && (isDg x || (x == 34 || x == 45 || x == 110 || x == 102 || x == 116)) && !(x == 93) && !(x == 125)))) n.toUInt8) = true by kernel_rfl) x.toNat (List.mem_range.2 x.toNat_lt)
    rwa [show x.toNat.toUInt8 = x from UInt8.ofNat_toNat] at h1
  have hk := key c
  have h0 : (c == 45 || isDg c) = true := by rcases h with rfl | h <;> simp [*]
  rw [h0] at hk
  simp only [Bool.not_true, Bool.false_or, Bool.and_eq_true, Bool.not_eq_true', beq_eq_false_iff_ne] at hk
  obtain ⟨⟨⟨⟨⟨⟨⟨⟨⟨a1, a2⟩, a3⟩, a4⟩, a5⟩, a6⟩, a7⟩, a8⟩, a9⟩, a10⟩ := hk
  exact ⟨a1, by simpa using a2, by simpa using a3, by simpa using a4, by simpa using a5, by simpa using a6, by simpa using a7, a8, a9, a10⟩
theorem prV_head {qc : Int → List UInt8} {nt : Bool → List Nat → Int → List UInt8} (hnt : NtOk nt) {st o : Nat} {x : VT} (hx : Gp x) : ∃ c t, prV qc nt st o x = c :: t ∧ isWs c = false ∧ c ≠ 93 ∧ c ≠ 125 := by
  obtain ⟨h0, hl⟩ := hx.own
  have hf := alone_fields h0
  cases x with
  | mk k n xs e t l ks =>
    unfold prV
    split
    · exact ⟨_, _, rfl, by decide, by decide, by decide⟩
    split
    · exact ⟨_, _, rfl, by decide, by decide, by decide⟩
    split
    · rename_i h3
      obtain ⟨-, -, -, -, c, t, hc, hd⟩ := hnt (n := n) (xs := xs) (e := e) hl (hf.2.2.1 h3)
      obtain ⟨a1, -, -, -, -, -, -, -, a9, a10⟩ := head_low hd
      exact ⟨c, t, hc, a1, a9, a10⟩
    split
    · exact ⟨_, _, rfl, by decide, by decide, by decide⟩
    split
    · exact ⟨_, _, rfl, by decide, by decide, by decide⟩
    split
    · exact ⟨_, _, rfl, by decide, by decide, by decide⟩
    · exact ⟨_, _, rfl, by decide, by decide, by decide⟩
end Go.Proofs.YtcanfiaooabocaaGreatDoor

namespace Go.Proofs.YtcanfiaooabocaaGreatDoor
open Go.Lib

/-- A number as an escape of four digits. -/
def dg4 (n : Nat) : List Nat := [n / 4096, n / 256 % 16, n / 16 % 16, n % 16]
def codedL (n : Nat) : List UInt8 := 92 :: 117 :: (dg4 n).map hxD
/-- A character, in octets below 80. -/
def quoteA (c : Int) : List UInt8 :=
  if c < 128 then quoteC c else if c < 65536 then codedL c.toNat else codedL (55296 + (c.toNat - 65536) / 1024) ++ codedL (56320 + (c.toNat - 65536) % 1024)
end Go.Proofs.YtcanfiaooabocaaGreatDoor

namespace Go.Proofs.YtcanfiaooabocaaGreatDoor
open Go.Lib

theorem enc_low {c : Int} (h0 : 0 ≤ c) (h1 : c < 128) : encodeRune c = [c.toNat.toUInt8] := by
  unfold encodeRune
  rw [encodeRuneZ_one h0 (by omega)]; rfl
theorem u8_of {x : Int} (h0 : 0 ≤ x) (h1 : x ≤ 255) : (x.toNat.toUInt8).toNat = x.toNat := by
  show x.toNat % 256 = x.toNat
  omega
end Go.Proofs.YtcanfiaooabocaaGreatDoor
