/-
  A value that was printed is read as itself: the whole of it, and what the reader's Read makes of it. Pure, no program.
  Characters as the page has them printed in octets below 80 alone: each is read as itself. Pure, no program.
  What is printed in one line has no white space outside of texts; in octets below 80 there are none above. Pure, no program.
-/
import Derived.Test.YtpbfdgjeocmikaaGreatDoorQPv
set_option linter.unusedVariables false
set_option linter.unusedSimpArgs false
namespace Go.Proofs.YtpbfdgjeocmikaaGreatDoor
open Go.Lib

theorem head_low {c : UInt8} (h : c = 45 ∨ isDg c = true) : isWs c = false ∧ (c == 91) = false ∧ (c == 123) = false ∧ (c == 34) = false ∧ (c == 110) = false ∧ (c == 102) = false ∧ (c == 116) = false ∧ (isDg c || (c == 34 || c == 45 || c == 110 || c == 102 || c == 116)) = true ∧ c ≠ 93 ∧ c ≠ 125 := by
  have key : ∀ x : UInt8, (!(x == 45 || isDg x) || (!isWs x && !(x == 91) && !(x == 123) && !(x == 34) && !(x == 110) && !(x == 102) && !(x == 116) && (isDg x || (x == 34 || x == 45 || x == 110 || x == 102 || x == 116)) && !(x == 93) && !(x == 125))) = true := fun x => by
    have h1 := List.all_eq_true.1 (show (List.range 256).all (fun n => (fun x : UInt8 => (!(x == 45 || isDg x) || (!isWs x && !(x == 91) && !(x == 123) && !(x == 34) && !(x == 110) && !(x == 102) && !(x == 116) && (isDg x || (x == 34 || x == 45 || x == 110 || x == 102 || x == 116)) && !(x == 93) && !(x == 125)))) n.toUInt8) = true by kernel_rfl) x.toNat (List.mem_range.2 x.toNat_lt)
    rwa [show x.toNat.toUInt8 = x from UInt8.ofNat_toNat] at h1
  have hk := key c
  have h0 : (c == 45 || isDg c) = true := by rcases h with rfl | h <;> simp [*]
  rw [h0] at hk
  simp only [Bool.not_true, Bool.false_or, Bool.and_eq_true, Bool.not_eq_true', beq_eq_false_iff_ne] at hk
  obtain ⟨⟨⟨⟨⟨⟨⟨⟨⟨a1, a2⟩, a3⟩, a4⟩, a5⟩, a6⟩, a7⟩, a8⟩, a9⟩, a10⟩ := hk
  exact ⟨a1, by simpa using a2, by simpa using a3, by simpa using a4, by simpa using a5, by simpa using a6, by simpa using a7, a8, a9, a10⟩
theorem prV_head {qc : Int → List UInt8} {nt : Bool → List Nat → Int → List UInt8} (hnt : NtOk nt) {st o : Nat} {x : VT} (hx : Gp x) : ∃ c t, prV qc nt st o x = c :: t ∧ isWs c = false ∧ c ≠ 93 ∧ c ≠ 125 := by
  obtain ⟨h0, hl⟩ := hx.own
  have hf := alone_fields h0
  cases x with
  | mk k n xs e t l ks =>
    unfold prV
    split
    · exact ⟨_, _, rfl, by decide, by decide, by decide⟩
    split
    · exact ⟨_, _, rfl, by decide, by decide, by decide⟩
    split
    · rename_i h3
      obtain ⟨-, -, -, -, c, t, hc, hd⟩ := hnt (n := n) (xs := xs) (e := e) hl (hf.2.2.1 h3)
      obtain ⟨a1, -, -, -, -, -, -, -, a9, a10⟩ := head_low hd
      exact ⟨c, t, hc, a1, a9, a10⟩
    split
    · exact ⟨_, _, rfl, by decide, by decide, by decide⟩
    split
    · exact ⟨_, _, rfl, by decide, by decide, by decide⟩
    split
    · exact ⟨_, _, rfl, by decide, by decide, by decide⟩
    · exact ⟨_, _, rfl, by decide, by decide, by decide⟩
end Go.Proofs.YtpbfdgjeocmikaaGreatDoor

namespace Go.Proofs.YtpbfdgjeocmikaaGreatDoor
open Go.Lib

/-- A number as an escape of four digits. -/
def dg4 (n : Nat) : List Nat := [n / 4096, n / 256 % 16, n / 16 % 16, n % 16]
def codedL (n : Nat) : List UInt8 := 92 :: 117 :: (dg4 n).map hxD
theorem dg4_lt {n : Nat} (h : n < 65536) : ∀ d ∈ dg4 n, d < 16 := fun d hd => by
  unfold dg4 at hd
  simp only [List.mem_cons, List.not_mem_nil, or_false] at hd
  omega
/-- A character, in octets below 80. -/
def quoteA (c : Int) : List UInt8 :=
  if c < 128 then quoteC c else if c < 65536 then codedL c.toNat else codedL (55296 + (c.toNat - 65536) / 1024) ++ codedL (56320 + (c.toNat - 65536) % 1024)
end Go.Proofs.YtpbfdgjeocmikaaGreatDoor

namespace Go.Proofs.YtpbfdgjeocmikaaGreatDoor
open Go.Lib

/-- Going over octets: within a text or not; none where white space stands outside of texts. -/
def scanP : Bool → List UInt8 → Option Bool
  | i, [] => some i
  | false, c :: t => if c = 34 then scanP true t else if c = 32 ∨ c < 32 then none else scanP false t
  | true, c :: t => if c = 92 then (match t with
      | [] => some true
      | _ :: u => scanP true u) else if c = 34 then scanP false t else scanP true t
theorem scan_out {l r : List UInt8} (h : ∀ c ∈ l, 32 < c ∧ c ≠ 34) : scanP false (l ++ r) = scanP false r := by
  induction l with
  | nil => rfl
  | cons c l ih =>
    obtain ⟨h1, h2⟩ := h c (by simp)
    have h3 : ¬ (c = 32 ∨ c < 32) := by
      intro h4
      have h5 : c.toNat > 32 := h1
      rcases h4 with rfl | h4
      · exact absurd h5 (by decide)
      · have : c.toNat < 32 := h4
        omega
    rw [List.cons_append]
    show (if c = 34 then scanP true (l ++ r) else if c = 32 ∨ c < 32 then none else scanP false (l ++ r)) = _
    rw [if_neg h2, if_neg h3]
    exact ih fun d hd => h d (by simp [hd])
theorem scan_cons (c : UInt8) (t : List UInt8) : scanP true (c :: t) = if c = 92 then (match t with
    | [] => some true
    | _ :: u => scanP true u) else if c = 34 then scanP false t else scanP true t := by
  conv => lhs; unfold scanP
theorem scan_in {l r : List UInt8} (h : ∀ c ∈ l, c ≠ 34 ∧ c ≠ 92) : scanP true (l ++ r) = scanP true r := by
  induction l with
  | nil => rfl
  | cons c l ih =>
    obtain ⟨h1, h2⟩ := h c (by simp)
    rw [List.cons_append]
    rw [scan_cons, if_neg h2, if_neg h1]
    exact ih fun d hd => h d (by simp [hd])
theorem scan_esc (x : UInt8) (r : List UInt8) : scanP true (92 :: x :: r) = scanP true r := by
  show (if (92 : UInt8) = 92 then scanP true r else _) = _
  rw [if_pos rfl]
/-- A printed character neither ends a text nor leaves a backslash open. -/
def QcIn (qc : Int → List UInt8) : Prop := ∀ {c}, isCh c → ∀ r, scanP true (qc c ++ r) = scanP true r
theorem hx_in {d : Nat} (h : d < 16) : hxD d ≠ 34 ∧ hxD d ≠ 92 ∧ 32 ≤ hxD d ∧ hxD d ≤ 126 := by
  have : ∀ d, d < 16 → hxD d ≠ 34 ∧ hxD d ≠ 92 ∧ 32 ≤ hxD d ∧ hxD d ≤ 126 := by decide
  exact this d h
theorem enc_low {c : Int} (h0 : 0 ≤ c) (h1 : c < 128) : encodeRune c = [c.toNat.toUInt8] := by
  unfold encodeRune
  rw [encodeRuneZ_one h0 (by omega)]; rfl
theorem u8_of {x : Int} (h0 : 0 ≤ x) (h1 : x ≤ 255) : (x.toNat.toUInt8).toNat = x.toNat := by
  show x.toNat % 256 = x.toNat
  omega
theorem enc_high {c : Int} (h : isCh c) (h1 : 128 ≤ c) : ∀ b ∈ encodeRune c, 128 ≤ b := by
  have key : ∀ x ∈ encodeRuneZ c, 128 ≤ x ∧ x ≤ 255 := by
    unfold isCh at h
    unfold encodeRuneZ
    intro x hx
    rw [if_neg (by omega)] at hx
    split at hx
    · simp only [List.mem_cons, List.not_mem_nil, or_false] at hx; omega
    split at hx
    · simp only [List.mem_cons, List.not_mem_nil, or_false] at hx; omega
    split at hx
    · simp only [List.mem_cons, List.not_mem_nil, or_false] at hx; omega
    · simp only [List.mem_cons, List.not_mem_nil, or_false] at hx; omega
  intro b hb
  unfold encodeRune at hb
  obtain ⟨x, hx, rfl⟩ := List.mem_map.1 hb
  have h2 := key x hx
  have h3 := u8_of (x := x) (by omega) h2.2
  show (128 : UInt8).toNat ≤ (x.toNat.toUInt8).toNat
  rw [h3]
  show 128 ≤ _
  omega
theorem high_in {b : UInt8} (h : 128 ≤ b) : b ≠ 34 ∧ b ≠ 92 := by
  have h2 : 128 ≤ b.toNat := h
  constructor <;> rintro rfl <;> exact absurd h2 (by decide)
theorem low_ne {c : Int} {k : Nat} (h0 : 0 ≤ c) (h1 : c < 128) (hk : k < 128) (h : c ≠ (k : Int)) : c.toNat.toUInt8 ≠ UInt8.ofNat k := by
  intro e
  have h2 := congrArg UInt8.toNat e
  rw [u8_of h0 (by omega)] at h2
  have h3 : (UInt8.ofNat k).toNat = k := by show k % 256 = k; omega
  omega
theorem plain_in : QcIn quoteC := fun {c} h r => by
  unfold quoteC
  split
  · exact scan_esc _ _
  split
  · exact scan_esc _ _
  split
  · exact scan_esc _ _
  split
  · exact scan_esc _ _
  split
  · exact scan_esc _ _
  split
  · exact scan_esc _ _
  split
  · exact scan_esc _ _
  rename_i n34 n92 _ _ _ _ _
  split
  · rename_i hl
    show scanP true (92 :: 117 :: ([48, 48, hxD (c.toNat / 16), hxD (c.toNat % 16)] ++ r)) = _
    rw [scan_esc]
    have hc : 0 ≤ c := by unfold isCh at h; omega
    exact scan_in fun d hd => by
      simp only [List.mem_cons, List.not_mem_nil, or_false] at hd
      have a1 := hx_in (d := c.toNat / 16) (by omega)
      have a2 := hx_in (d := c.toNat % 16) (by omega)
      rcases hd with rfl | rfl | rfl | rfl
      · exact ⟨by decide, by decide⟩
      · exact ⟨by decide, by decide⟩
      · exact ⟨a1.1, a1.2.1⟩
      · exact ⟨a2.1, a2.2.1⟩
  · rename_i hl
    by_cases h1 : c < 128
    · have hc : 0 ≤ c := by unfold isCh at h; omega
      rw [enc_low hc h1]
      exact scan_in fun d hd => by
        have : d = c.toNat.toUInt8 := by simpa using hd
        rw [this]
        exact ⟨low_ne (k := 34) hc h1 (by omega) (by omega), low_ne (k := 92) hc h1 (by omega) (by omega)⟩
    · exact scan_in fun d hd => high_in (enc_high h (by omega) d hd)
theorem txt_scan {qc : Int → List UInt8} (H : QcIn qc) {s : ByteArray} (hT : isT s.data.toList = true) (r : List UInt8) : scanP false (txtL qc s ++ r) = scanP false r := by
  have key : ∀ cs : List Int, (∀ c ∈ cs, isCh c) → ∀ r, scanP true (qL qc cs ++ r) = scanP true r := fun cs => by
    induction cs with
    | nil => intro _ r; rfl
    | cons c cs ih =>
      intro hc r
      rw [qL_cons, List.append_assoc, H (hc c (by simp)), ih (fun d hd => hc d (by simp [hd]))]
  unfold txtL
  rw [List.cons_append]
  show (if (34 : UInt8) = 34 then scanP true (qL qc _ ++ [34] ++ r) else _) = _
  rw [if_pos rfl, List.append_assoc, key _ (charsT hT).2, List.singleton_append, scan_cons, if_neg (by decide), if_pos rfl]
/-- Numbers are printed without white space and quotes. -/
def NtIn (nt : Bool → List Nat → Int → List UInt8) : Prop := ∀ {n xs e}, L32 xs → okB n xs e = true → ∀ c ∈ nt n xs e, 32 < c ∧ c ≤ 126 ∧ c ≠ 34
mutual
theorem scan_value {qc : Int → List UInt8} {nt : Bool → List Nat → Int → List UInt8} (H : QcIn qc) (hnt : NtIn nt) (o : Nat) : ∀ (x : VT), Gp x → ∀ r, scanP false (prV qc nt 0 o x ++ r) = scanP false r
  | .mk k n xs e t l ks, hx, r => by
    obtain ⟨h0, hl⟩ := hx.own
    obtain ⟨hin, -, f3', -, f4', -, f6', ftx, -, -, -⟩ := alone_fields h0
    simp only [VT.kind, VT.list, VT.num, VT.neg, VT.exp, VT.text, VT.keys] at hin f3' f4' f6' ftx hl
    have hsub : ∀ z ∈ l, Gp z := fun z hz => hx.sub (hin ▸ hz)
    have hgap : (if l.isEmpty then [] else lineL 0 (o + 1)) = [] := by split <;> rfl
    unfold prV
    split
    · exact scan_out (l := [102, 97, 108, 115, 101]) (by decide)
    split
    · exact scan_out (l := [116, 114, 117, 101]) (by decide)
    split
    · rename_i h3
      exact scan_out fun c hc => by have := hnt (n := n) (xs := xs) (e := e) hl (f3' h3) c hc; exact ⟨this.1, this.2.2⟩
    split
    · rename_i h4
      exact txt_scan H (f4' h4).1 r
    split
    · rw [hgap, List.nil_append]
      show scanP false ([91] ++ (itT 0 o 93 true (prI qc nt 0 o l) ++ r)) = _
      rw [scan_out (l := [91]) (by decide)]
      exact scan_items H hnt o l hsub true r
    split
    · rename_i h6
      rw [hgap, List.nil_append]
      show scanP false ([123] ++ (itT 0 o 125 true (prK qc nt 0 o l ks) ++ r)) = _
      rw [scan_out (l := [123]) (by decide)]
      exact scan_keys H hnt o l ks (f6' h6).1 hsub (fun s hs => (ftx s hs).1) true r
    · exact scan_out (l := [110, 117, 108, 108]) (by decide)
theorem scan_items {qc : Int → List UInt8} {nt : Bool → List Nat → Int → List UInt8} (H : QcIn qc) (hnt : NtIn nt) (o : Nat) : ∀ (l : List VT), (∀ z ∈ l, Gp z) → ∀ (first : Bool) (r : List UInt8), scanP false (itT 0 o 93 first (prI qc nt 0 o l) ++ r) = scanP false r
  | [], _, first, r => scan_out (l := [93]) (by decide)
  | v :: l, hv, first, r => by
    unfold prI itT
    have h1 : (if first then [] else 44 :: lineL 0 (o + 1)) = (if first then [] else [44] : List UInt8) := by cases first <;> rfl
    have h2 : (if (prI qc nt 0 o l).isEmpty then lineL 0 o else []) = [] := by split <;> rfl
    rw [h1, h2, List.nil_append, List.append_assoc, List.append_assoc]
    rw [scan_out (l := if first then [] else [44]) (by cases first <;> decide), scan_value H hnt (o + 1) v (hv v (by simp))]
    exact scan_items H hnt o l (fun z hz => hv z (by simp [hz])) false r
theorem scan_keys {qc : Int → List UInt8} {nt : Bool → List Nat → Int → List UInt8} (H : QcIn qc) (hnt : NtIn nt) (o : Nat) : ∀ (l : List VT) (ks : List ByteArray), ks.length = l.length → (∀ z ∈ l, Gp z) → (∀ s ∈ ks, isT s.data.toList = true) → ∀ (first : Bool) (r : List UInt8), scanP false (itT 0 o 125 first (prK qc nt 0 o l ks) ++ r) = scanP false r
  | [], _, _, _, _, first, r => by unfold prK; exact scan_out (l := [125]) (by decide)
  | v :: l, [], hk, _, _, _, _ => absurd hk (by simp)
  | v :: l, s :: ks, hk, hv, hs, first, r => by
    unfold prK itT
    have h1 : (if first then [] else 44 :: lineL 0 (o + 1)) = (if first then [] else [44] : List UInt8) := by cases first <;> rfl
    have h2 : (if (prK qc nt 0 o l (s :: ks).tail).isEmpty then lineL 0 o else []) = [] := by split <;> rfl
    simp only [h1, h2, List.nil_append, List.append_assoc, if_true]
    rw [scan_out (l := if first then [] else [44]) (by cases first <;> decide)]
    show scanP false (txtL qc s ++ ([58] ++ (prV qc nt 0 (o + 1) v ++ (itT 0 o 125 false (prK qc nt 0 o l ks) ++ r)))) = _
    rw [txt_scan H (hs s (by simp)), scan_out (l := [58]) (by decide), scan_value H hnt (o + 1) v (hv v (by simp))]
    exact scan_keys H hnt o l ks (by simpa using hk) (fun z hz => hv z (by simp [hz])) (fun t ht => hs t (by simp [ht])) false r
end
end Go.Proofs.YtpbfdgjeocmikaaGreatDoor
