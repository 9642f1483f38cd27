/-
  How an archive is gone through, header by header, with no word of the program; that the archive of right files tells these.
-/
import Derived.Test.YthiojdemcaaihaaGreatDoorPackMath
import Derived.Test.YthiojdemcaaihaaGreatDoorRows
import Derived.Test.YthiojdemcaaihaaGreatDoorPart4
import Derived.Test.YthiojdemcaaihaaGreatDoorWide
import Derived.Lib.IndexMore
import Derived.WalkKit
import Derived.WalkSpells
import Derived.WalkLawsBesides
import Derived.Deep.RegionWith
namespace Go.Proofs.YthiojdemcaaihaaGreatDoor.M

/-- n bytes from a place on. -/
def cutL (t : List UInt8) (a n : Nat) : List UInt8 := (t.drop a).take n
def ba (l : List UInt8) : ByteArray := ⟨l.toArray⟩
theorem ba_size (l : List UInt8) : (ba l).size = l.length := by unfold ba; rw [Lib.size_eq]
theorem ba_list (l : List UInt8) : (ba l).data.toList = l := rfl
/-- A field up to its first byte 0. -/
def textL (l : List UInt8) : List UInt8 := l.takeWhile (fun c => c != 0)
/-- Without a byte / at its end. -/
def stripL (l : List UInt8) : List UInt8 := if l.getLast? = some 47 then l.dropLast else l
def kindL (h : List UInt8) : UInt8 := h.getD 156 0
def sumOkL (h : List UInt8) : Bool := decide (cutL h 148 8 = (octB (sumH (ba h)) 6).data.toList ++ [0, 32])
def sizeL (h : List UInt8) : Int := octR (ba (cutL h 124 11))
def blk (n : Nat) : Nat := (n + 511) / 512
/-- The file of a header and its data; path: that of a record ahead of it. -/
def fileL (h data path : List UInt8) : FileD :=
  { path := ba (if kindL h = 53 then stripL (if path = [] then textL (cutL h 0 100) else path) else (if path = [] then textL (cutL h 0 100) else path)),
    dir := decide (kindL h = 53), mode := octR (ba (cutL h 100 7)), time := octR (ba (cutL h 136 11)), data := ba data }
/-- What comes of it: a fault and its place, or the files. -/
abbrev Rd : Type := Sum (Int × Nat) (List FileD)
abbrev Rd.ill (code : Int) (at' : Nat) : Rd := Sum.inl (code, at')
abbrev Rd.fin (fs : List FileD) : Rd := Sum.inr fs
/-- Where one stands: the path of a record, and the files so far. -/
structure St where
  path : List UInt8
  out : List FileD
def stepL (p : List UInt8 → List UInt8) (h data : List UInt8) (st : St) : St :=
  if kindL h = 120 then ⟨p data, st.out⟩ else ⟨[], st.out ++ [fileL h data st.path]⟩
/-- From header to header; p: the path of a record. -/
def readL (p : List UInt8 → List UInt8) (t : List UInt8) : Nat → Nat → St → Rd
  | 0, _, _ => Rd.ill 0 0
  | fuel + 1, a, st =>
    if t.length < a + 512 then Rd.ill 4 (a / 512)
    else if cutL t a 512 = List.replicate 512 0 then Rd.fin st.out
    else if sumOkL (cutL t a 512) = false then Rd.ill 5 (a / 512)
    else if sizeL (cutL t a 512) < 0 then Rd.ill 3 (a / 512)
    else if t.length < a + 512 + blk (sizeL (cutL t a 512)).toNat * 512 then Rd.ill 4 (a / 512)
    else readL p t fuel (a + 512 + blk (sizeL (cutL t a 512)).toNat * 512) (stepL p (cutL t a 512) (cutL t (a + 512) (sizeL (cutL t a 512)).toNat) st)

/-- What is wrong, and where, does not hang on how a record is read. -/
theorem readL_ill (p q : List UInt8 → List UInt8) (t : List UInt8) : ∀ (fuel a : Nat) (s u : St), (∀ c b, readL p t fuel a s = Rd.ill c b ↔ readL q t fuel a u = Rd.ill c b)
  | 0, _, _, _, c, b => Iff.rfl
  | fuel + 1, a, s, u, c, b => by
    unfold readL
    by_cases h1 : t.length < a + 512
    · rw [if_pos h1, if_pos h1]
    rw [if_neg h1, if_neg h1]
    by_cases h2 : cutL t a 512 = List.replicate 512 0
    · rw [if_pos h2, if_pos h2]; exact Iff.intro (fun h => by cases h) (fun h => by cases h)
    rw [if_neg h2, if_neg h2]
    by_cases h3 : sumOkL (cutL t a 512) = false
    · rw [if_pos h3, if_pos h3]
    rw [if_neg h3, if_neg h3]
    by_cases h4 : sizeL (cutL t a 512) < 0
    · rw [if_pos h4, if_pos h4]
    rw [if_neg h4, if_neg h4]
    by_cases h5 : t.length < a + 512 + blk (sizeL (cutL t a 512)).toNat * 512
    · rw [if_pos h5, if_pos h5]
    rw [if_neg h5, if_neg h5]
    exact readL_ill p q t fuel _ _ _ c b

/-! ### What stands in a header -/
theorem cutL_app (A B C : List UInt8) (a n : Nat) (ha : A.length = a) (hn : B.length = n) : cutL (A ++ B ++ C) a n = B := by
  unfold cutL
  subst ha hn
  rw [List.append_assoc, List.drop_left, List.take_left]
theorem octT_isOct : ∀ (d n : Nat), ∀ c ∈ octT d n, isOct c = true
  | 0, _, c, hc => by cases hc
  | d + 1, n, c, hc => by
    rcases List.mem_cons.1 hc with rfl | h
    · have h8 : n / 8 ^ d % 8 < 8 := Nat.mod_lt _ (by decide)
      unfold isOct
      rw [UInt8.toNat_ofNat', Nat.mod_eq_of_lt (show 48 + n / 8 ^ d % 8 < 2 ^ 8 by omega)]
      rw [decide_eq_true (by omega), decide_eq_true (by omega)]; rfl
    · exact octT_isOct d n c h
theorem octV_octT : ∀ (d n a : Nat), (octT d n).foldl (fun n c => 8 * n + (c.toNat - 48)) a = a * 8 ^ d + n % 8 ^ d
  | 0, n, a => by simp [octT, Nat.mod_one]
  | d + 1, n, a => by
    have h8 : n / 8 ^ d % 8 < 8 := Nat.mod_lt _ (by decide)
    rw [octT, List.foldl_cons, octV_octT d n, UInt8.toNat_ofNat', Nat.mod_eq_of_lt (show 48 + n / 8 ^ d % 8 < 2 ^ 8 by omega), Nat.add_sub_cancel_left, Nat.pow_succ, Nat.mod_mul, Nat.add_mul]
    have e1 : 8 * a * 8 ^ d = a * (8 ^ d * 8) := by rw [Nat.mul_comm 8 a, Nat.mul_assoc, Nat.mul_comm 8]
    have e2 : n / 8 ^ d % 8 * 8 ^ d = 8 ^ d * (n / 8 ^ d % 8) := Nat.mul_comm _ _
    omega
theorem octR_octT {d n : Nat} (h1 : 1 ≤ d) (h2 : d ≤ 20) (h : n < 8 ^ d) : octR (ba (octT d n)) = (n : Int) := by
  rw [octR_good (by rw [ba_size, octT_len]; exact h1) (by rw [ba_size, octT_len]; exact h2) (fun c hc => octT_isOct d n c hc), ba_list]
  unfold octV
  rw [octV_octT, Nat.zero_mul, Nat.zero_add, Nat.mod_eq_of_lt h]
/-- Two headers that differ in their sum fields alone have one sum. -/
theorem sumK_mid (A X Y B : List UInt8) (hA : A.length = 148) (hX : X.length = 8) (hY : Y.length = 8) : ∀ k, sumK (ba (A ++ X ++ B)) k = sumK (ba (A ++ Y ++ B)) k
  | 0 => rfl
  | k + 1 => by
    simp only [sumK]
    rw [sumK_mid A X Y B hA hX hY k, ba_list, ba_list]
    congr 1
    by_cases h : 148 ≤ k ∧ k < 156
    · unfold sumC; rw [if_pos h, if_pos h]
    · have e : (A ++ X ++ B).getD k 0 = (A ++ Y ++ B).getD k 0 := by
        rw [List.getD_eq_getElem?_getD, List.getD_eq_getElem?_getD]
        by_cases hk : k < 148
        · rw [List.append_assoc, List.append_assoc, List.getElem?_append_left (by omega), List.getElem?_append_left (by omega)]
        · rw [List.getElem?_append_right (by rw [List.length_append]; omega), List.getElem?_append_right (by rw [List.length_append]; omega), List.length_append, List.length_append, hX, hY]
      rw [e]
theorem sumH_mid (A X Y B : List UInt8) (hA : A.length = 148) (hX : X.length = 8) (hY : Y.length = 8) : sumH (ba (A ++ X ++ B)) = sumH (ba (A ++ Y ++ B)) := by
  unfold sumH
  rw [ba_size, ba_size, List.length_append, List.length_append, List.length_append, List.length_append, hX, hY]
  exact sumK_mid A X Y B hA hX hY _

theorem head_parts {name : ByteArray} {size mode time kind : Nat} (h0 : name.size ≤ 100) (h1 : mode < 8 ^ 7) (h2 : size < 8 ^ 11) (h3 : time < 8 ^ 11) :
    ∃ q, q < 8 ^ 6 ∧ (head name size mode time kind).data.toList = preA name.data.toList (octT 7 mode) (octT 7 0) (octT 11 size) (octT 11 time) ++ (octT 6 q ++ [0, 32]) ++ preZ (UInt8.ofNat kind)
      ∧ q = sumH (ba (preA name.data.toList (octT 7 mode) (octT 7 0) (octT 11 size) (octT 11 time) ++ List.replicate 8 0 ++ preZ (UInt8.ofNat kind))) := by
  have hn : name.data.toList.length ≤ 100 := by rw [← Lib.size_eq]; exact h0
  have he := pre_eq (kd := UInt8.ofNat kind) hn (octT_len 7 mode) (octT_len 7 0) (octT_len 11 size) (octT_len 11 time)
  have hl : (pre name.data.toList (octT 7 mode) (octT 7 0) (octT 11 size) (octT 11 time) (UInt8.ofNat kind)).length = 512 := by
    rw [he, List.length_append, List.length_append, preA_len hn (octT_len _ _) (octT_len _ _) (octT_len _ _) (octT_len _ _), preZ_len, List.length_replicate]
  refine ⟨sumH (ba (pre name.data.toList (octT 7 mode) (octT 7 0) (octT 11 size) (octT 11 time) (UInt8.ofNat kind))), head_sum_lt hl, ?_, by rw [he]⟩
  rw [head_final (kind := kind) h0 h1 h2 h3 rfl]
  show over _ _ _ = _
  rw [octB_full (head_sum_lt hl), show (⟨#[0, 32]⟩ : ByteArray) = ⟨[(0 : UInt8), 32].toArray⟩ from rfl, ba_L]
  exact post_eq hn (octT_len _ _) (octT_len _ _) (octT_len _ _) (octT_len _ _) (by rw [List.length_append, octT_len]; rfl)
/-- What is read of a header. -/
structure HeadIs (h : List UInt8) (name : List UInt8) (size mode time : Nat) (kind : UInt8) : Prop where
  len : h.length = 512
  sum : sumOkL h = true
  size : sizeL h = (size : Int)
  mode : octR (ba (cutL h 100 7)) = (mode : Int)
  time : octR (ba (cutL h 136 11)) = (time : Int)
  kind : kindL h = kind
  name : cutL h 0 100 = name ++ List.replicate (100 - name.length) 0
theorem head_is {name : ByteArray} {size mode time kind : Nat} (h0 : name.size ≤ 100) (h1 : mode < 8 ^ 7) (h2 : size < 8 ^ 11) (h3 : time < 8 ^ 11) :
    HeadIs (head name size mode time kind).data.toList name.data.toList size mode time (UInt8.ofNat kind) := by
  obtain ⟨q, hq, he, hs⟩ := head_parts (kind := kind) h0 h1 h2 h3
  have hn : name.data.toList.length ≤ 100 := by rw [← Lib.size_eq]; exact h0
  have hA := preA_len hn (octT_len 7 mode) (octT_len 7 0) (octT_len 11 size) (octT_len 11 time)
  have hX : (octT 6 q ++ [(0 : UInt8), 32]).length = 8 := by rw [List.length_append, octT_len]; rfl
  rw [he]
  refine ⟨?_, ?_, ?_, ?_, ?_, ?_, ?_⟩
  · rw [List.length_append, List.length_append, hA, hX, preZ_len]
  · unfold sumOkL
    rw [decide_eq_true_iff, cutL_app _ _ _ _ _ hA hX]
    have e := (sumH_mid _ _ _ (preZ (UInt8.ofNat kind)) hA hX (List.length_replicate (n := 8) (a := (0 : UInt8)))).trans hs.symm
    rw [e, octB_full hq]
  · unfold sizeL
    have := cutL_app (name.data.toList ++ List.replicate (100 - name.data.toList.length) 0 ++ octT 7 mode ++ [0] ++ octT 7 0 ++ [0] ++ octT 7 0 ++ [0]) (octT 11 size) ([0] ++ octT 11 time ++ [0] ++ (octT 6 q ++ [0, 32]) ++ preZ (UInt8.ofNat kind)) 124 11
      (by simp only [List.length_append, List.length_replicate, octT_len, List.length_cons, List.length_nil]; omega) (octT_len _ _)
    rw [show preA name.data.toList (octT 7 mode) (octT 7 0) (octT 11 size) (octT 11 time) ++ (octT 6 q ++ [0, 32]) ++ preZ (UInt8.ofNat kind) = (name.data.toList ++ List.replicate (100 - name.data.toList.length) 0 ++ octT 7 mode ++ [0] ++ octT 7 0 ++ [0] ++ octT 7 0 ++ [0]) ++ octT 11 size ++ ([0] ++ octT 11 time ++ [0] ++ (octT 6 q ++ [0, 32]) ++ preZ (UInt8.ofNat kind)) by unfold preA; simp only [List.append_assoc], this]
    exact octR_octT (by decide) (by decide) h2
  · have := cutL_app (name.data.toList ++ List.replicate (100 - name.data.toList.length) 0) (octT 7 mode) ([0] ++ octT 7 0 ++ [0] ++ octT 7 0 ++ [0] ++ octT 11 size ++ [0] ++ octT 11 time ++ [0] ++ (octT 6 q ++ [0, 32]) ++ preZ (UInt8.ofNat kind)) 100 7
      (by simp only [List.length_append, List.length_replicate]; omega) (octT_len _ _)
    rw [show preA name.data.toList (octT 7 mode) (octT 7 0) (octT 11 size) (octT 11 time) ++ (octT 6 q ++ [0, 32]) ++ preZ (UInt8.ofNat kind) = (name.data.toList ++ List.replicate (100 - name.data.toList.length) 0) ++ octT 7 mode ++ ([0] ++ octT 7 0 ++ [0] ++ octT 7 0 ++ [0] ++ octT 11 size ++ [0] ++ octT 11 time ++ [0] ++ (octT 6 q ++ [0, 32]) ++ preZ (UInt8.ofNat kind)) by unfold preA; simp only [List.append_assoc], this]
    exact octR_octT (by decide) (by decide) h1
  · have := cutL_app (name.data.toList ++ List.replicate (100 - name.data.toList.length) 0 ++ octT 7 mode ++ [0] ++ octT 7 0 ++ [0] ++ octT 7 0 ++ [0] ++ octT 11 size ++ [0]) (octT 11 time) ([0] ++ (octT 6 q ++ [0, 32]) ++ preZ (UInt8.ofNat kind)) 136 11
      (by simp only [List.length_append, List.length_replicate, octT_len, List.length_cons, List.length_nil]; omega) (octT_len _ _)
    rw [show preA name.data.toList (octT 7 mode) (octT 7 0) (octT 11 size) (octT 11 time) ++ (octT 6 q ++ [0, 32]) ++ preZ (UInt8.ofNat kind) = (name.data.toList ++ List.replicate (100 - name.data.toList.length) 0 ++ octT 7 mode ++ [0] ++ octT 7 0 ++ [0] ++ octT 7 0 ++ [0] ++ octT 11 size ++ [0]) ++ octT 11 time ++ ([0] ++ (octT 6 q ++ [0, 32]) ++ preZ (UInt8.ofNat kind)) by unfold preA; simp only [List.append_assoc], this]
    exact octR_octT (by decide) (by decide) h3
  · unfold kindL
    rw [List.getD_eq_getElem?_getD, List.getElem?_append_right (by rw [List.length_append, hA, hX]; decide), List.length_append, hA, hX]
    rfl
  · have := cutL_app [] (name.data.toList ++ List.replicate (100 - name.data.toList.length) 0) (octT 7 mode ++ [0] ++ octT 7 0 ++ [0] ++ octT 7 0 ++ [0] ++ octT 11 size ++ [0] ++ octT 11 time ++ [0] ++ (octT 6 q ++ [0, 32]) ++ preZ (UInt8.ofNat kind)) 0 100
      rfl (by simp only [List.length_append, List.length_replicate]; omega)
    rw [show preA name.data.toList (octT 7 mode) (octT 7 0) (octT 11 size) (octT 11 time) ++ (octT 6 q ++ [0, 32]) ++ preZ (UInt8.ofNat kind) = [] ++ (name.data.toList ++ List.replicate (100 - name.data.toList.length) 0) ++ (octT 7 mode ++ [0] ++ octT 7 0 ++ [0] ++ octT 7 0 ++ [0] ++ octT 11 size ++ [0] ++ octT 11 time ++ [0] ++ (octT 6 q ++ [0, 32]) ++ preZ (UInt8.ofNat kind)) by unfold preA; simp only [List.append_assoc, List.nil_append], this]
end Go.Proofs.YthiojdemcaaihaaGreatDoor.M

/-
  The archive of right files tells these files, however a record is read, if it is read as it is written.
-/
namespace Go.Proofs.YthiojdemcaaihaaGreatDoor.M

theorem textL_pad {nm : List UInt8} (h : ∀ c ∈ nm, c ≠ 0) (k : Nat) : textL (nm ++ List.replicate k 0) = nm := by
  unfold textL
  rw [List.takeWhile_append_of_pos (fun c hc => by simpa using h c hc)]
  cases k with
  | zero => simp
  | succ k => simp [List.replicate_succ]
theorem stripL_slash (l : List UInt8) : stripL (l ++ [47]) = l := by
  unfold stripL
  rw [if_pos (by simp)]
  simp
theorem kind_zero : kindL (List.replicate 512 0) = 0 := by
  unfold kindL
  rw [List.getD_eq_getElem?_getD, List.getElem?_replicate]
  rfl
theorem fill_blk (n : Nat) : n + fillN n = blk n * 512 := by unfold fillN blk; omega
/-- One header, and what follows it. -/
theorem readL_head (p : List UInt8 → List UInt8) {A H D R nm : List UInt8} {size mode time : Nat} {kind : UInt8} (hH : HeadIs H nm size mode time kind) (hk : kind ≠ 0) (hD : D.length = size) (fuel : Nat) (st : St) :
    readL p (A ++ H ++ (D ++ List.replicate (fillN size) 0) ++ R) (fuel + 1) A.length st = readL p (A ++ H ++ (D ++ List.replicate (fillN size) 0) ++ R) fuel (A.length + 512 + blk size * 512) (stepL p H D st) := by
  have hl : (A ++ H ++ (D ++ List.replicate (fillN size) 0) ++ R).length = A.length + 512 + blk size * 512 + R.length := by
    simp only [List.length_append, List.length_replicate, hH.len, hD]
    rw [fill_blk]
  have hc : cutL (A ++ H ++ (D ++ List.replicate (fillN size) 0) ++ R) A.length 512 = H := by
    rw [show A ++ H ++ (D ++ List.replicate (fillN size) 0) ++ R = A ++ H ++ ((D ++ List.replicate (fillN size) 0) ++ R) by simp only [List.append_assoc]]
    exact cutL_app _ _ _ _ _ rfl hH.len
  have hd : cutL (A ++ H ++ (D ++ List.replicate (fillN size) 0) ++ R) (A.length + 512) size = D := by
    rw [show A ++ H ++ (D ++ List.replicate (fillN size) 0) ++ R = (A ++ H) ++ D ++ (List.replicate (fillN size) 0 ++ R) by simp only [List.append_assoc]]
    exact cutL_app _ _ _ _ _ (by rw [List.length_append, hH.len]) hD
  conv => lhs; unfold readL
  rw [hc, hl, if_neg (by omega), if_neg (fun e => hk (by rw [← hH.kind, e]; exact kind_zero)), if_neg (by rw [hH.sum]; decide), hH.size, if_neg (by omega), Int.toNat_natCast, if_neg (by omega), hd]
theorem readL_end (p : List UInt8 → List UInt8) (A R : List UInt8) (fuel : Nat) (st : St) : readL p (A ++ List.replicate 512 0 ++ R) (fuel + 1) A.length st = Rd.fin st.out := by
  conv => lhs; unfold readL
  rw [if_neg (by simp only [List.length_append, List.length_replicate]; omega), if_pos (cutL_app _ _ _ _ _ rfl List.length_replicate)]

/-- A record is read as it is written. -/
def RecOk (p : List UInt8 → List UInt8) : Prop := ∀ nm : ByteArray, 100 < nm.size → nm.size ≤ 151 → p (recB nm).data.toList = nm.data.toList
theorem fillB_list (t : ByteArray) : (fillB t).data.toList = t.data.toList ++ List.replicate (fillN t.size) 0 := by
  unfold fillB zerosB
  rw [ByteArray.data_append, Array.toList_append]
theorem app_list (a b : ByteArray) : (a ++ b).data.toList = a.data.toList ++ b.data.toList := by
  rw [ByteArray.data_append, Array.toList_append]
/-- What a right file's path is made of. -/
structure PathIs (f : FileD) : Prop where
  path : f.path.size ≤ 150
  nz : ∀ c ∈ f.path.data.toList, c ≠ 0
  mode : 0 ≤ f.mode ∧ f.mode ≤ 4095
  time : 0 ≤ f.time ∧ f.time ≤ 1000000000
  data : f.data.size ≤ 1200
theorem full_nz {f : FileD} (h : PathIs f) : ∀ c ∈ (fullB f.path f.dir).data.toList, c ≠ 0 := by
  intro c hc
  unfold fullB at hc
  split at hc
  · rw [app_list] at hc
    rcases List.mem_append.1 hc with h1 | h1
    · exact h.nz c h1
    · rw [show (⟨#[47]⟩ : ByteArray).data.toList = [47] from rfl, List.mem_singleton] at h1
      rw [h1]; decide
  · exact h.nz c hc
/-- The file that a right file's header and data tell. -/
theorem fileL_is {f : FileD} (h : PathIs f) {H nm path : List UInt8} (hH : HeadIs H nm f.data.size f.mode.toNat f.time.toNat (UInt8.ofNat (kindN f.dir)))
    (hp : (if path = [] then textL (cutL H 0 100) else path) = (fullB f.path f.dir).data.toList) : fileL H f.data.data.toList path = f := by
  unfold fileL
  rw [hp, hH.kind, hH.mode, hH.time]
  obtain ⟨fp, fd, fm, ft, fda⟩ := f
  have e1 : ((fm.toNat : Nat) : Int) = fm := Int.toNat_of_nonneg h.mode.1
  have e2 : ((ft.toNat : Nat) : Int) = ft := Int.toNat_of_nonneg h.time.1
  cases fd
  · show FileD.mk (ba (if (48 : UInt8) = 53 then stripL fp.data.toList else fp.data.toList)) (decide ((48 : UInt8) = 53)) (fm.toNat : Int) (ft.toNat : Int) (ba fda.data.toList) = _
    rw [if_neg (by decide), e1, e2]
    rfl
  · show FileD.mk (ba (if (53 : UInt8) = 53 then stripL (fp ++ (⟨#[47]⟩ : ByteArray)).data.toList else (fp ++ (⟨#[47]⟩ : ByteArray)).data.toList)) (decide ((53 : UInt8) = 53)) (fm.toNat : Int) (ft.toNat : Int) (ba fda.data.toList) = _
    rw [if_pos rfl, app_list, e1, e2, show (⟨#[47]⟩ : ByteArray).data.toList = [47] from rfl, stripL_slash]
    rfl
/-- The entry of a right file. -/
theorem readL_entry (p : List UInt8 → List UInt8) (hp : RecOk p) {f : FileD} (h : PathIs f) (A R : List UInt8) (out : List FileD) :
    ∃ k, 1 ≤ k ∧ k ≤ 2 ∧ ∀ fuel, readL p (A ++ (entryB f).data.toList ++ R) (fuel + k) A.length ⟨[], out⟩ = readL p (A ++ (entryB f).data.toList ++ R) fuel (A.length + (entryB f).size) ⟨[], out ++ [f]⟩ := by
  have hm : f.mode.toNat < 8 ^ 7 := by have := h.mode; omega
  have ht : f.time.toNat < 8 ^ 11 := by have := h.time; omega
  have hs : f.data.size < 8 ^ 11 := by have := h.data; omega
  have hk53 : UInt8.ofNat (kindN f.dir) ≠ 0 := by cases f.dir <;> decide
  have hk120 : ¬ UInt8.ofNat (kindN f.dir) = 120 := by cases f.dir <;> decide
  have hnm := fullB_size f.path f.dir h.path
  by_cases hl : 100 < (fullB f.path f.dir).size
  · refine ⟨2, by decide, by decide, fun fuel => ?_⟩
    have hrs := recB_size (p := fullB f.path f.dir) (by omega) (by omega)
    have H1 := head_is (name := ⟨#[112, 97, 120]⟩) (size := (recB (fullB f.path f.dir)).size) (mode := 420) (time := 0) (kind := 120) (by decide) (by decide) (by omega) (by decide)
    have H2 := head_is (name := (fullB f.path f.dir).extract 0 100) (size := f.data.size) (mode := f.mode.toNat) (time := f.time.toNat) (kind := kindN f.dir) (by rw [ByteArray.size_extract]; omega) hm hs ht
    have hE : (entryB f).data.toList = (head ⟨#[112, 97, 120]⟩ (recB (fullB f.path f.dir)).size 420 0 120).data.toList ++ ((recB (fullB f.path f.dir)).data.toList ++ List.replicate (fillN (recB (fullB f.path f.dir)).size) 0) ++ ((head ((fullB f.path f.dir).extract 0 100) f.data.size f.mode.toNat f.time.toNat (kindN f.dir)).data.toList ++ (f.data.data.toList ++ List.replicate (fillN f.data.size) 0)) := by
      unfold entryB
      rw [if_pos hl, if_pos hl, app_list, app_list]
      unfold paxB
      rw [app_list, fillB_list, fillB_list]
      simp only [List.append_assoc]
    have hES : (entryB f).size = 512 + blk (recB (fullB f.path f.dir)).size * 512 + (512 + blk f.data.size * 512) := by
      rw [Lib.size_eq, hE]
      simp only [List.length_append, List.length_replicate, H1.len, H2.len]
      rw [← Lib.size_eq, ← Lib.size_eq, fill_blk, fill_blk]
    rw [hES, hE]
    generalize hr : (recB (fullB f.path f.dir)).data.toList = rl
    have hrl : rl.length = (recB (fullB f.path f.dir)).size := by rw [← hr, Lib.size_eq]
    have hpr : p rl = (fullB f.path f.dir).data.toList := by rw [← hr]; exact hp _ hl hnm
    generalize (recB (fullB f.path f.dir)).size = rs at *
    generalize (head ⟨#[112, 97, 120]⟩ rs 420 0 120).data.toList = h1 at *
    generalize hh2 : (head ((fullB f.path f.dir).extract 0 100) f.data.size f.mode.toNat f.time.toNat (kindN f.dir)).data.toList = h2 at *
    have s1 := readL_head p (A := A) (R := (h2 ++ (f.data.data.toList ++ List.replicate (fillN f.data.size) 0)) ++ R) H1 (by decide) hrl (fuel + 1) ⟨[], out⟩
    have e1 : A ++ h1 ++ (rl ++ List.replicate (fillN rs) 0) ++ ((h2 ++ (f.data.data.toList ++ List.replicate (fillN f.data.size) 0)) ++ R) = A ++ (h1 ++ (rl ++ List.replicate (fillN rs) 0) ++ (h2 ++ (f.data.data.toList ++ List.replicate (fillN f.data.size) 0))) ++ R := by simp only [List.append_assoc]
    rw [e1] at s1
    rw [show fuel + 2 = fuel + 1 + 1 from rfl, s1]
    have hst : stepL p h1 rl ⟨[], out⟩ = ⟨(fullB f.path f.dir).data.toList, out⟩ := by unfold stepL; rw [H1.kind, if_pos (by decide), hpr]
    rw [hst]
    have s2 := readL_head p (A := A ++ h1 ++ (rl ++ List.replicate (fillN rs) 0)) (R := R) H2 hk53 (D := f.data.data.toList) (by rw [← Lib.size_eq]) fuel ⟨(fullB f.path f.dir).data.toList, out⟩
    have e2 : A ++ h1 ++ (rl ++ List.replicate (fillN rs) 0) ++ h2 ++ (f.data.data.toList ++ List.replicate (fillN f.data.size) 0) ++ R = A ++ (h1 ++ (rl ++ List.replicate (fillN rs) 0) ++ (h2 ++ (f.data.data.toList ++ List.replicate (fillN f.data.size) 0))) ++ R := by simp only [List.append_assoc]
    have e3 : (A ++ h1 ++ (rl ++ List.replicate (fillN rs) 0)).length = A.length + 512 + blk rs * 512 := by
      simp only [List.length_append, List.length_replicate, H1.len, hrl]; rw [fill_blk]
    rw [e2, e3] at s2
    rw [s2]
    have hne : ¬ (fullB f.path f.dir).data.toList = [] := fun e => by
      have : (fullB f.path f.dir).size = 0 := by rw [Lib.size_eq, e]; rfl
      omega
    have hst2 : stepL p h2 f.data.data.toList ⟨(fullB f.path f.dir).data.toList, out⟩ = ⟨[], out ++ [f]⟩ := by
      unfold stepL
      rw [H2.kind, if_neg hk120, fileL_is h H2 (by rw [if_neg hne])]
    rw [hst2, show A.length + 512 + blk rs * 512 + 512 + blk f.data.size * 512 = A.length + (512 + blk rs * 512 + (512 + blk f.data.size * 512)) by omega]
  · refine ⟨1, by decide, by decide, fun fuel => ?_⟩
    have H2 := head_is (name := fullB f.path f.dir) (size := f.data.size) (mode := f.mode.toNat) (time := f.time.toNat) (kind := kindN f.dir) (by omega) hm hs ht
    have hE : (entryB f).data.toList = (head (fullB f.path f.dir) f.data.size f.mode.toNat f.time.toNat (kindN f.dir)).data.toList ++ (f.data.data.toList ++ List.replicate (fillN f.data.size) 0) := by
      unfold entryB
      rw [if_neg hl, if_neg hl, app_list, app_list, fillB_list]
      rfl
    have hES : (entryB f).size = 512 + blk f.data.size * 512 := by
      rw [Lib.size_eq, hE]
      simp only [List.length_append, List.length_replicate, H2.len]
      rw [← Lib.size_eq, fill_blk]
    rw [hES, hE]
    generalize hh2 : (head (fullB f.path f.dir) f.data.size f.mode.toNat f.time.toNat (kindN f.dir)).data.toList = h2 at *
    have s2 := readL_head p (A := A) (R := R) H2 hk53 (D := f.data.data.toList) (by rw [← Lib.size_eq]) fuel ⟨[], out⟩
    have e2 : A ++ h2 ++ (f.data.data.toList ++ List.replicate (fillN f.data.size) 0) ++ R = A ++ (h2 ++ (f.data.data.toList ++ List.replicate (fillN f.data.size) 0)) ++ R := by simp only [List.append_assoc]
    rw [e2] at s2
    rw [s2]
    have hst2 : stepL p h2 f.data.data.toList ⟨[], out⟩ = ⟨[], out ++ [f]⟩ := by
      unfold stepL
      rw [H2.kind, if_neg hk120, fileL_is h H2 (by rw [if_pos rfl, H2.name, textL_pad (full_nz h)])]
    rw [hst2, Nat.add_assoc]
/-- The archive of right files tells these. -/
theorem readL_files (p : List UInt8 → List UInt8) (hp : RecOk p) : ∀ (fs : List FileD) (A : List UInt8) (out : List FileD), (∀ f ∈ fs, PathIs f) → ∀ fuel, 2 * fs.length < fuel → readL p (A ++ entriesL fs ++ List.replicate 1024 0) fuel A.length ⟨[], out⟩ = Rd.fin (out ++ fs)
  | [], A, out, _, fuel, hf => by
    obtain ⟨k, rfl⟩ : ∃ k, fuel = k + 1 := ⟨fuel - 1, by simp at hf; omega⟩
    rw [show A ++ entriesL [] ++ List.replicate 1024 0 = A ++ List.replicate 512 0 ++ List.replicate 512 0 by
      rw [show (1024 : Nat) = 512 + 512 from rfl, zer_split]; simp only [entriesL, List.flatMap_nil, List.append_nil, List.append_assoc], readL_end, List.append_nil]
  | f :: fs, A, out, h, fuel, hf => by
    obtain ⟨k, hk1, hk2, hr⟩ := readL_entry p hp (h f List.mem_cons_self) A (entriesL fs ++ List.replicate 1024 0) out
    rw [List.length_cons] at hf
    obtain ⟨m, rfl⟩ : ∃ m, fuel = m + k := ⟨fuel - k, by omega⟩
    have e : A ++ entriesL (f :: fs) ++ List.replicate 1024 0 = A ++ (entryB f).data.toList ++ (entriesL fs ++ List.replicate 1024 0) := by
      simp only [entriesL, List.flatMap_cons, List.append_assoc]
    rw [e, hr m]
    have ih := readL_files p hp fs (A ++ (entryB f).data.toList) (out ++ [f]) (fun g hg => h g (List.mem_cons_of_mem _ hg)) m (by omega)
    rw [List.length_append, ← Lib.size_eq] at ih
    rw [show A ++ (entryB f).data.toList ++ (entriesL fs ++ List.replicate 1024 0) = A ++ (entryB f).data.toList ++ entriesL fs ++ List.replicate 1024 0 by simp only [List.append_assoc], ih]
    simp
end Go.Proofs.YthiojdemcaaihaaGreatDoor.M

/-
  What Unpack tells, with no word of the program: both ways to read a record tell the same.
-/
namespace Go.Proofs.YthiojdemcaaihaaGreatDoor.M

theorem splitL_mem (d : UInt8) : ∀ (l acc : List UInt8) (c : UInt8), c ∈ acc ++ l → c = d ∨ ∃ q ∈ splitL d acc l, c ∈ q
  | [], acc, c, hc => .inr ⟨acc, by simp [splitL], by simpa using hc⟩
  | b :: l, acc, c, hc => by
    by_cases hb : b = d
    · rw [splitL_hit hb]
      rcases List.mem_append.1 hc with h | h
      · exact .inr ⟨acc, List.mem_cons_self, h⟩
      · rcases List.mem_cons.1 h with rfl | h
        · exact .inl hb
        · rcases splitL_mem d l [] c (by simpa using h) with h1 | ⟨q, hq, h1⟩
          · exact .inl h1
          · exact .inr ⟨q, List.mem_cons_of_mem _ hq, h1⟩
    · rw [splitL_miss hb]
      exact splitL_mem d l (acc ++ [b]) c (by simpa using hc)
theorem fileR_path {f : FileD} (h : fileR f = true) : PathIs f := by
  unfold fileR at h
  simp only [Bool.and_eq_true, decide_eq_true_eq] at h
  obtain ⟨⟨⟨⟨h1, h2⟩, h3⟩, h4⟩, _⟩ := h
  unfold pathR at h1
  simp only [Bool.and_eq_true, decide_eq_true_eq] at h1
  refine ⟨h1.1, fun c hc e => ?_, h2, h3, h4⟩
  subst e
  rcases splitL_mem 47 f.path.data.toList [] 0 (by simpa using hc) with h5 | ⟨q, hq, h5⟩
  · exact absurd h5 (by decide)
  · have := List.all_eq_true.1 h1.2 q hq
    rw [partR_bad h5 (by decide)] at this
    cases this

/-- The key of a record. -/
def keyL : List UInt8 := [32, 112, 97, 116, 104, 61]
/-- The path of a record, as the program reads it. -/
def recI (t : List UInt8) : List UInt8 := Lib.trimSuffix (Lib.cut t keyL).2.1 [10]
/-- The path of a record, as the specification reads it. -/
def recS (t : List UInt8) : List UInt8 := if 0 ≤ Lib.index t keyL then (t.drop ((Lib.index t keyL).toNat + 6)).dropLast else []
theorem dec3 {n : Nat} (h1 : 100 ≤ n) (h2 : n ≤ 999) : Lib.decDigits n = [UInt8.ofNat (48 + n / 10 / 10), UInt8.ofNat (48 + n / 10 % 10), UInt8.ofNat (48 + n % 10)] := by
  rw [Lib.decDigits, dif_neg (by omega), Lib.decDigits, dif_neg (by omega), Lib.decDigits, dif_pos (by omega)]
  rfl
theorem dig_ne {x : Nat} (h : x < 10) : UInt8.ofNat (48 + x) ≠ 32 := fun e => by
  have := congrArg UInt8.toNat e
  rw [UInt8.toNat_ofNat', Nat.mod_eq_of_lt (show 48 + x < 2 ^ 8 by omega)] at this
  have h2 : (32 : UInt8).toNat = 32 := rfl
  omega
theorem index_skip {c : UInt8} {l : List UInt8} {i : Nat} (hc : c ≠ 32) (h : Lib.index l keyL = (i : Int)) : Lib.index (c :: l) keyL = ((i + 1 : Nat) : Int) := by
  have hp : keyL.isPrefixOf (c :: l) = false := by
    unfold keyL
    rw [List.isPrefixOf]
    rw [show (32 == c) = false from beq_eq_false_iff_ne.2 (fun e => hc e.symm)]
    rfl
  rw [Lib.index, hp, h]
  rw [if_neg (by decide), if_neg (by simp)]
  omega
theorem rec_index {nm : ByteArray} (h1 : 100 < nm.size) (h2 : nm.size ≤ 151) :
    ∃ a b c, (recB nm).data.toList = a :: b :: c :: (keyL ++ (nm.data.toList ++ [10])) ∧ Lib.index (recB nm).data.toList keyL = 3 := by
  have e : (recB nm).data.toList = UInt8.ofNat (48 + (nm.size + 10) / 10 / 10) :: UInt8.ofNat (48 + (nm.size + 10) / 10 % 10) :: UInt8.ofNat (48 + (nm.size + 10) % 10) :: (keyL ++ (nm.data.toList ++ [10])) := by
    unfold recB decB restB
    rw [dec3 (by omega) (by omega), app_list, app_list, app_list]
    rfl
  refine ⟨_, _, _, e, ?_⟩
  rw [e]
  have h0 : Lib.index (keyL ++ (nm.data.toList ++ [10])) keyL = ((0 : Nat) : Int) := by
    show Lib.index (32 :: ([112, 97, 116, 104, 61] ++ (nm.data.toList ++ [10]))) keyL = 0
    rw [Lib.index, if_pos (by unfold keyL; simp [List.isPrefixOf])]
  exact index_skip (dig_ne (by omega)) (index_skip (dig_ne (by omega)) (index_skip (dig_ne (by omega)) h0))
theorem recS_ok : RecOk recS := fun nm h1 h2 => by
  obtain ⟨a, b, c, e, hi⟩ := rec_index h1 h2
  unfold recS
  rw [hi, if_pos (by decide), e]
  show (List.drop 6 (keyL ++ (nm.data.toList ++ [10]))).dropLast = _
  rw [show (6 : Nat) = keyL.length from rfl, List.drop_left, List.dropLast_concat]
theorem recI_ok : RecOk recI := fun nm h1 h2 => by
  obtain ⟨a, b, c, e, hi⟩ := rec_index h1 h2
  unfold recI Lib.cut
  rw [hi, if_pos (by decide), e]
  show Lib.trimSuffix (List.drop 6 (keyL ++ (nm.data.toList ++ [10]))) [10] = _
  rw [show (6 : Nat) = keyL.length from rfl, List.drop_left]
  unfold Lib.trimSuffix Lib.hasSuffix
  rw [if_pos (List.isSuffixOf_iff_suffix.2 ⟨nm.data.toList, rfl⟩), List.length_append, List.length_singleton, Nat.add_sub_cancel, List.take_left]

/-- How many steps are enough. -/
def fuelL (t : List UInt8) : Nat := 2 * t.length + 3
/-- What Unpack tells of a text of at most 20,000 bytes: the code, the place, the files. -/
def outL (p : List UInt8 → List UInt8) (t : List UInt8) : Int × Nat × List FileD :=
  match readL p t (fuelL t) 0 ⟨[], []⟩ with
  | Sum.inl (c, a) => (c, a, [])
  | Sum.inr fs => if (packB fs).data.toList = t then (0, 0, fs) else (3, 0, [])
theorem readL_nil (p : List UInt8 → List UInt8) (fs : List FileD) : readL p [] (fuelL []) 0 ⟨[], []⟩ ≠ Rd.fin fs := by
  show readL p [] (2 + 1) 0 ⟨[], []⟩ ≠ _
  unfold readL
  rw [if_pos (by decide)]
  intro h; cases h
theorem read_of_pack {p q : List UInt8 → List UInt8} (hq : RecOk q) {t : List UInt8} {fs : List FileD} (hr : readL p t (fuelL t) 0 ⟨[], []⟩ = Rd.fin fs) (ht : (packB fs).data.toList = t) : readL q t (fuelL t) 0 ⟨[], []⟩ = Rd.fin fs := by
  by_cases hc : fs.length ≤ 20 ∧ (fs.all fileR = true) ∧ (archB fs).size ≤ 20000
  · have hpk : packB fs = archB fs := by unfold packB; rw [if_pos hc]
    have hl : t = [] ++ entriesL fs ++ List.replicate 1024 0 := by
      rw [← ht, hpk]
      unfold archB zerosB
      rw [app_list]; rfl
    have := readL_files q hq fs [] [] (fun f hf => fileR_path (List.all_eq_true.1 hc.2.1 f hf)) (fuelL t) (by
      have : 1024 ≤ t.length := by rw [hl]; simp only [List.length_append, List.length_replicate]; omega
      unfold fuelL; omega)
    rw [← hl] at this
    exact this
  · have hpk : packB fs = ⟨#[]⟩ := by unfold packB; rw [if_neg hc]
    rw [hpk] at ht
    have ht' : t = [] := ht.symm
    subst ht'
    exact absurd hr (readL_nil p fs)
theorem outL_eq {p q : List UInt8 → List UInt8} (hp : RecOk p) (hq : RecOk q) (t : List UInt8) : outL p t = outL q t := by
  unfold outL
  cases h1 : readL p t (fuelL t) 0 ⟨[], []⟩ with
  | inl ca =>
    obtain ⟨c, a⟩ := ca
    rw [(readL_ill p q t (fuelL t) 0 ⟨[], []⟩ ⟨[], []⟩ c a).1 h1]
  | inr fs =>
    cases h2 : readL q t (fuelL t) 0 ⟨[], []⟩ with
    | inl ca =>
      obtain ⟨c, a⟩ := ca
      have := (readL_ill p q t (fuelL t) 0 ⟨[], []⟩ ⟨[], []⟩ c a).2 h2
      rw [h1] at this; cases this
    | inr gs =>
      show (if (packB fs).data.toList = t then _ else _) = (if (packB gs).data.toList = t then _ else _)
      by_cases ha : (packB fs).data.toList = t
      · have := read_of_pack hq h1 ha
        rw [h2] at this
        cases this
        rfl
      · by_cases hb : (packB gs).data.toList = t
        · have := read_of_pack hp h2 hb
          rw [h1] at this
          cases this
          exact absurd hb ha
        · rw [if_neg ha, if_neg hb]
/-- A field up to its first byte 0, as the library cuts it. -/
theorem cut_text : ∀ l : List UInt8, (Lib.cut l [0]).1 = textL l
  | [] => rfl
  | b :: l => by
    have ih := cut_text l
    by_cases hb : b = 0
    · subst hb
      unfold Lib.cut
      rw [Lib.index, if_pos (by simp [List.isPrefixOf])]
      simp [textL]
    · have hp : [0].isPrefixOf (b :: l) = false := by
        rw [List.isPrefixOf, show ((0 : UInt8) == b) = false from beq_eq_false_iff_ne.2 (fun e => hb e.symm)]; rfl
      have ht : textL (b :: l) = b :: textL l := by unfold textL; rw [List.takeWhile_cons_of_pos (by simpa using hb)]
      rw [ht, ← ih]
      have hge := Lib.index_ge l [0]
      by_cases hi : Lib.index l [0] = -1
      · have hx : Lib.index (b :: l) [0] = -1 := by rw [Lib.index, hp, if_neg (show ¬ (false = true) by decide), if_pos (by simpa using hi)]
        unfold Lib.cut
        rw [hx, hi, if_neg (by decide), if_neg (by decide)]
      · have hx : Lib.index (b :: l) [0] = Lib.index l [0] + 1 := by rw [Lib.index, hp, if_neg (show ¬ (false = true) by decide), if_neg (by simpa using hi)]
        unfold Lib.cut
        rw [hx, if_pos (by omega), if_pos (by omega)]
        show List.take (Lib.index l [0] + 1).toNat (b :: l) = b :: List.take (Lib.index l [0]).toNat l
        rw [show (Lib.index l [0] + 1).toNat = (Lib.index l [0]).toNat + 1 by omega, List.take_succ_cons]
end Go.Proofs.YthiojdemcaaihaaGreatDoor.M

/-
  What l03Text and l03Path of the specification do.
-/
namespace Go.Proofs.YthiojdemcaaihaaGreatDoor
open Go.RowKit

theorem M.text_hit : ∀ (l : List UInt8) (k : Nat), k < l.length → (∀ j, j < k → l[j]? ≠ some 0) → l[k]? = some 0 → M.textL l = l.take k
  | [], k, hk, _, _ => absurd hk (Nat.not_lt_zero _)
  | b :: l, 0, _, _, h => by
    have hb : b = 0 := by simpa using h
    subst hb
    simp [M.textL]
  | b :: l, k + 1, hk, ha, h => by
    have hb : b ≠ 0 := fun e => ha 0 (Nat.succ_pos _) (by simp [e])
    have ih := M.text_hit l k (by simpa using hk) (fun j hj => by have := ha (j + 1) (by omega); simpa using this) (by simpa using h)
    unfold M.textL at ih ⊢
    rw [List.takeWhile_cons_of_pos (by simpa using hb), ih, List.take_succ_cons]
theorem M.text_all : ∀ {l : List UInt8}, (∀ j, j < l.length → l[j]? ≠ some 0) → M.textL l = l
  | [], _ => rfl
  | b :: l, ha => by
    have hb : b ≠ 0 := fun e => ha 0 (by simp) (by simp [e])
    have ih := M.text_all (l := l) (fun j hj => by have := ha (j + 1) (by simpa using hj); simpa using this)
    unfold M.textL at ih ⊢
    rw [List.takeWhile_cons_of_pos (by simpa using hb), ih]
theorem M.at_list {s : ByteArray} {k : Nat} (h : k < s.size) : s.data.toList[k]? = some s[k] := by
  have h' : k < s.data.toList.length := by rw [← Lib.size_eq]; exact h
  rw [List.getElem?_eq_getElem h']; rfl

set_option maxRecDepth 100000 in
set_option maxHeartbeats 400000 in
theorem sText_any (s : ByteArray) (w : World) (hs : s.size ≤ 100000) :
    Calls Tryz.prog 27 #[.string s] w fun e w' => e = .returned (.string (M.ba (M.textL s.data.toList))) ∧ w = w' := by
  go_enter Tryz.func27, Tryz.ntmps27
  go_wp2
  go_loop [3] (fun i => ∃ k : Nat, i = .int .i64 k ∧ k ≤ s.size ∧ Hid (∀ j, j < k → s.data.toList[j]? ≠ some 0)) (fun i => s.size - (intOf i).toNat)
  case atStart => exact ⟨0, rfl, Nat.zero_le _, fun j hj => absurd hj (Nat.not_lt_zero _)⟩
  case round =>
    obtain ⟨k, rfl, hk, HA⟩ := hrel
    by_cases hlt : k < s.size
    · by_cases hc : s[k] = 0
      · have hE : Hid (M.ba (M.textL s.data.toList) = s.extract 0 k) := by
          show _ = _
          rw [M.text_hit s.data.toList k (by rw [← Lib.size_eq]; exact hlt) HA.out (by rw [M.at_list hlt, hc]), M.cut_mk s 0 k]
          simp [M.ba]
        have hq : (((s[k]'hlt).toNat : Int) == 0) = true := by rw [hc]; rfl
        clear hc
        go_wp2
        go_ret
        exact ⟨by rw [hE.out]; rfl, rfl⟩
      · have H2 : Hid (∀ j, j < k + 1 → s.data.toList[j]? ≠ some 0) := fun j hj => by
          by_cases e : j = k
          · subst e; rw [M.at_list hlt]; exact fun h => hc (Option.some.inj h)
          · exact HA.out j (by omega)
        have hq : (((s[k]'hlt).toNat : Int) == 0) = false := by
          rw [beq_eq_false_iff_ne]
          exact fun h => hc (UInt8.toNat_inj.1 (by show _ = 0; omega))
        clear hc
        go_wp2
        go_round
        case rel => exact ⟨k + 1, by go_num, by omega, H2⟩
        case measure => simp [intOf]; omega
    · have hE : Hid (M.ba (M.textL s.data.toList) = s) := by
        show _ = _
        rw [M.text_all (fun j hj => HA.out j (by rw [← Lib.size_eq] at hj; omega))]
        exact (M.ba_toL s).symm
      go_wp2
      go_ret
      exact ⟨by rw [hE.out]; rfl, rfl⟩

set_option maxRecDepth 100000 in
set_option maxHeartbeats 400000 in
theorem sMax_any (a b : Int) (w : World) : Calls Tryz.prog 26 #[.int .i64 a, .int .i64 b] w fun e w' => e = .returned (.int .i64 (if b < a then a else b)) ∧ w = w' := by
  by_cases h : b < a
  · rw [if_pos h]
    go_enter Tryz.func26, Tryz.ntmps26
    go_wp2
    go_ret
    exact ⟨rfl, rfl⟩
  · rw [if_neg h]
    go_enter Tryz.func26, Tryz.ntmps26
    go_wp2
    go_ret
    exact ⟨rfl, rfl⟩

theorem M.occ_iff {s : ByteArray} {k : Nat} (_ : k + 6 ≤ s.size) : Lib.occAt s.data.toList M.keyL k = ((s.extract k (k + 6)).toList == [32, 112, 97, 116, 104, 61]) := by
  have e : (s.extract k (k + 6)).toList = (s.data.toList.drop k).take 6 := by
    rw [ByteArray.toList_eq, M.cut_mk s k (k + 6), show k + 6 - k = 6 by omega]
  rw [e]
  unfold Lib.occAt
  rw [Bool.eq_iff_iff, List.isPrefixOf_iff_prefix, beq_iff_eq, List.prefix_iff_eq_take]
  exact ⟨fun h => h.symm, fun h => h.symm⟩
theorem M.occ_short {s : ByteArray} {k : Nat} (h : s.size < k + 6) : Lib.occAt s.data.toList M.keyL k = false := by
  unfold Lib.occAt
  rw [Bool.eq_false_iff]
  intro hh
  have := (List.isPrefixOf_iff_prefix.1 hh).length_le
  rw [List.length_drop, ← Lib.size_eq, show M.keyL.length = 6 from rfl] at this
  omega

set_option maxRecDepth 100000 in
set_option maxHeartbeats 400000 in
theorem sRecP_any (s : ByteArray) (w : World) (hs : s.size ≤ 100000) :
    Calls Tryz.prog 15 #[.string s] w fun e w' => e = .returned (.string (M.ba (M.recS s.data.toList))) ∧ w = w' := by
  have HM : Hid (∀ a b W, Calls Tryz.prog 26 #[.int .i64 a, .int .i64 b] W fun e w' => e = .returned (.int .i64 (if b < a then a else b)) ∧ W = w') := sMax_any
  go_enter Tryz.func15, Tryz.ntmps15
  go_wp2
  go_loop [3] (fun i => ∃ k : Nat, i = .int .i64 k ∧ k ≤ s.size + 1 ∧ Hid (∀ j, j < k → Lib.occAt s.data.toList M.keyL j = false)) (fun i => s.size + 1 - (intOf i).toNat)
  case atStart => exact ⟨0, rfl, Nat.zero_le _, fun j hj => absurd hj (Nat.not_lt_zero _)⟩
  case round =>
    obtain ⟨k, rfl, hk, HA⟩ := hrel
    by_cases hlt : k + 6 ≤ s.size
    · have hoc := M.occ_iff hlt
      cases hc : Lib.occAt s.data.toList M.keyL k
      · rw [hc] at hoc
        have hq := hoc.symm
        have H2 : Hid (∀ j, j < k + 1 → Lib.occAt s.data.toList M.keyL j = false) := fun j hj => by
          by_cases e : j = k
          · subst e; exact hc
          · exact HA.out j (by omega)
        clear hc hoc
        go_wp2
        go_round
        case rel => exact ⟨k + 1, by go_num, by omega, H2⟩
        case measure => simp [intOf]; omega
      · rw [hc] at hoc
        have hq := hoc.symm
        have hi : Lib.index s.data.toList M.keyL = (k : Int) := Lib.index_first (by rw [← Lib.size_eq]; omega) hc HA.out
        obtain ⟨z, hz⟩ : ∃ z : Nat, z = if s.size - 1 < k + 6 then k + 6 else s.size - 1 := ⟨_, rfl⟩
        have hz1 : k + 6 ≤ z := by rw [hz]; split <;> omega
        have hz2 : z ≤ s.size := by rw [hz]; split <;> omega
        have HZ : Hid ((if (s.size : Int) - 1 < (k : Int) + 6 then (k : Int) + 6 else (s.size : Int) - 1) = (z : Int)) := by show _ = _; rw [hz]; split <;> split <;> omega
        have hE : Hid (M.ba (M.recS s.data.toList) = s.extract (k + 6) z) := by
          show _ = _
          unfold M.recS
          rw [hi, if_pos (by omega), Int.toNat_natCast, M.cut_mk s (k + 6) z, List.dropLast_eq_take, List.length_drop, ← Lib.size_eq]
          unfold M.ba
          congr 3
          rw [hz]; split <;> omega
        clear hc hoc hi hz
        go_wp2_with fail
        refine (HM.out _ _ _).mono ?_
        rintro e w1 ⟨rfl, rfl⟩
        rw [HZ.out]
        go_wp2
        go_ret
        exact ⟨by rw [hE.out]; rfl, rfl⟩
    · have hE : Hid (M.ba (M.recS s.data.toList) = ⟨#[]⟩) := by
        show _ = _
        unfold M.recS
        rw [Lib.index_none (fun j _ => by
          by_cases h : j < k
          · exact HA.out j h
          · exact M.occ_short (by omega)), if_neg (by decide)]
        rfl
      go_wp2
      go_ret
      exact ⟨by rw [hE.out]; rfl, rfl⟩
end Go.Proofs.YthiojdemcaaihaaGreatDoor

/-
  Bytes of a text, and what digits to the base of eight tell at most.
-/
namespace Go.Proofs.YthiojdemcaaihaaGreatDoor
open Go.RowKit

theorem M.memAt {q : ByteArray} {k : Nat} (h : k < q.size) : q[k] ∈ q.data.toList := by
  rw [Array.mem_toList_iff]
  exact Array.getElem_mem (xs := q.data) h
theorem M.atMem {q : ByteArray} {c : UInt8} (h : c ∈ q.data.toList) : ∃ k, ∃ h : k < q.size, q[k] = c := by
  rw [Array.mem_toList_iff] at h
  obtain ⟨k, hk, e⟩ := Array.mem_iff_getElem.1 h
  exact ⟨k, hk, e⟩
theorem M.takeAt (s : ByteArray) (k : Nat) (h : k < s.size) : s.data.toList.take (k + 1) = s.data.toList.take k ++ [s[k]] := by
  have hl : k < s.data.toList.length := by rw [← Lib.size_eq]; exact h
  rw [List.take_succ_eq_append_getElem hl]; rfl
theorem M.octV_le (s : ByteArray) (k : Nat) (hk : k ≤ 20) (h : ∀ j, ∀ hj : j < s.size, j < k → M.isOct s[j] = true) : M.octV (s.data.toList.take k) < 8 ^ 20 := by
  refine Nat.lt_of_lt_of_le (M.octV_lt _ (fun c hc => ?_)) (Nat.pow_le_pow_right (by decide) (show (s.data.toList.take k).length ≤ 20 by rw [List.length_take]; omega))
  obtain ⟨j, hj, rfl⟩ := List.getElem_of_mem hc
  rw [List.length_take] at hj
  have hjs : j < s.size := by rw [Lib.size_eq]; omega
  rw [List.getElem_take]
  exact h j hjs (by omega)

end Go.Proofs.YthiojdemcaaihaaGreatDoor

/-
  What OctalRead of the specification does.
-/
namespace Go.Proofs.YthiojdemcaaihaaGreatDoor
open Go.RowKit

set_option maxRecDepth 100000 in
set_option maxHeartbeats 1600000 in
theorem sOctR_any (s : ByteArray) (w : World) (hs : s.size ≤ maxLen) :
    Calls Tryz.prog 14 #[.string s] w fun e w' => e = .returned (.int .i64 (M.octR s)) ∧ w = w' := by
  unfold maxLen at hs
  by_cases hlo : s.size < 1
  · have hE : Hid (M.octR s = -1) := M.octR_size (.inl hlo)
    go_enter Tryz.func14, Tryz.ntmps14
    go_wp2
    go_ret
    exact ⟨by rw [hE.out]; rfl, rfl⟩
  by_cases hhi : 20 < s.size
  · have hE : Hid (M.octR s = -1) := M.octR_size (.inr hhi)
    go_enter Tryz.func14, Tryz.ntmps14
    go_wp2
    go_ret
    exact ⟨by rw [hE.out]; rfl, rfl⟩
  go_enter Tryz.func14, Tryz.ntmps14
  go_wp2
  go_loop [3, 4] (fun x i => ∃ k n : Nat, k ≤ s.size ∧ i = .int .i64 k ∧ x = .int .i64 n ∧ n < 1152921504606846976 ∧ Hid (n = M.octV (s.data.toList.take k)) ∧ Hid (∀ j, ∀ h : j < s.size, j < k → M.isOct s[j] = true)) (fun _ i => s.size - (intOf i).toNat)
  case atStart => exact ⟨0, 0, Nat.zero_le _, rfl, rfl, by decide, rfl, fun j _ hj => absurd hj (Nat.not_lt_zero _)⟩
  case round =>
    obtain ⟨k, n, hk, rfl, rfl, hn, HV, hall⟩ := hrel
    by_cases hlt : k < s.size
    · rcases (show ((s[k]'hlt).toNat : Int) < 48 ∨ 55 < ((s[k]'hlt).toNat : Int) ∨ (48 ≤ ((s[k]'hlt).toNat : Int) ∧ ((s[k]'hlt).toNat : Int) ≤ 55) from by omega) with ha | ha | ⟨ha, hb⟩
      · have hE : Hid (M.octR s = -1) := M.octR_bad (M.memAt hlt) (M.isOct_lo ha)
        clear hall
        go_wp2
        go_ret
        exact ⟨by rw [hE.out]; rfl, rfl⟩
      · have hE : Hid (M.octR s = -1) := M.octR_bad (M.memAt hlt) (M.isOct_hi ha)
        have e1 : decide (55 < ((s[k]'hlt).toNat : Int)) = true := decide_eq_true ha
        clear hall
        go_wp2
        go_ret
        exact ⟨by rw [hE.out]; rfl, rfl⟩
      · have H : ∀ j, ∀ h : j < s.size, j < k + 1 → M.isOct s[j] = true := fun j h hj => by
          by_cases e : j = k
          · subst e; exact M.isOct_yes ha hb
          · exact hall.out j h (by omega)
        have HH : Hid (∀ j, ∀ h : j < s.size, j < k + 1 → M.isOct s[j] = true) := H
        have HV2 : Hid (8 * n + ((s[k]'hlt).toNat - 48) = M.octV (s.data.toList.take (k + 1))) := by
          show _ = _
          rw [M.takeAt s k hlt, M.octV_snoc, HV.out]
        have hb2 : 8 * n + ((s[k]'hlt).toNat - 48) < 1152921504606846976 := by
          rw [HV2.out]; exact M.octV_le s (k + 1) (by omega) H
        have e1 : decide (55 < ((s[k]'hlt).toNat : Int)) = false := decide_eq_false (by omega)
        clear hall H
        go_wp2
        go_round
        case rel => exact ⟨k + 1, 8 * n + ((s[k]'hlt).toNat - 48), by omega, by go_num, by go_num, hb2, HV2, HH⟩
        case measure => simp [intOf]; omega
    · have hE : Hid (M.octR s = (n : Int)) := by
        show _ = _
        rw [M.octR_good (by omega) (by omega) (fun c hc => by
          obtain ⟨j, hj, rfl⟩ := M.atMem hc
          exact hall.out j hj (by omega)), HV.out, List.take_of_length_le (by rw [← Lib.size_eq]; omega)]
      go_wp2
      go_ret
      exact ⟨by rw [hE.out]; rfl, rfl⟩

end Go.Proofs.YthiojdemcaaihaaGreatDoor

/-
  What l03Ill and l03Of of the specification do.
-/
namespace Go.Proofs.YthiojdemcaaihaaGreatDoor
open Go.RowKit

set_option maxRecDepth 100000 in
set_option maxHeartbeats 400000 in
theorem sIll_any (c : Int) (a : Nat) (w : World) (h : a ≤ 100000) :
    Calls Tryz.prog 9 #[.int .i64 c, .int .i64 a] w fun e w' => e = .returned (.agg #[.slice none 0 0, .int .i64 ((a / 512 : Nat) : Int), .int .i64 c]) ∧ Below w.heap.size w w' := by
  go_enter Tryz.func9, Tryz.ntmps9
  go_wp2
  exact bodyPost_ret (v := .agg #[.slice none 0 0, .int .i64 ((a / 512 : Nat) : Int), .int .i64 c]) (by simp [results, Tryz.results9, go_sem]) rfl ⟨rfl, (Below.refl _ _).alloc (Nat.le_refl _) _⟩

theorem M.fileL_val {h data path nm : ByteArray} (hh : h.size = 512) (e : nm.data.toList = (if path.data.toList = [] then M.textL (M.cutL h.data.toList 0 100) else path.data.toList)) :
    M.fileL h.data.toList data.data.toList path.data.toList = ⟨M.ba (if h[156] = 53 then M.stripL nm.data.toList else nm.data.toList), decide (h[156] = 53), M.octR (h.extract 100 107), M.octR (h.extract 136 147), data⟩ := by
  have hk : M.kindL h.data.toList = h[156] := by
    unfold M.kindL
    rw [List.getD_eq_getElem?_getD, M.at_list (by omega), Option.getD_some]
  unfold M.fileL
  rw [← e, hk, M.cut_mk h 100 107, M.cut_mk h 136 147]
  rfl
theorem M.strip_dir {nm : ByteArray} {r : Nat} (hr : nm.size = r + 1) (hlt : r < nm.size) (h : nm[r] = 47) : M.ba (M.stripL nm.data.toList) = nm.extract 0 r := by
  have hl : nm.data.toList.length = r + 1 := by rw [← Lib.size_eq]; exact hr
  have hg : nm.data.toList.getLast? = some 47 := by rw [List.getLast?_eq_getElem?, hl, Nat.add_sub_cancel, M.at_list hlt, h]
  unfold M.stripL
  rw [if_pos hg, M.cut_mk nm 0 r, List.dropLast_eq_take, hl]
  rfl
theorem M.strip_not {nm : ByteArray} {r : Nat} (hr : nm.size = r + 1) (hlt : r < nm.size) (h : ¬ nm[r] = 47) : M.ba (M.stripL nm.data.toList) = nm := by
  have hl : nm.data.toList.length = r + 1 := by rw [← Lib.size_eq]; exact hr
  have hg : ¬ nm.data.toList.getLast? = some 47 := by rw [List.getLast?_eq_getElem?, hl, Nat.add_sub_cancel, M.at_list hlt]; exact fun e => h (Option.some.inj e)
  unfold M.stripL
  rw [if_neg hg]
  exact (M.ba_toL nm).symm
theorem M.strip_nil {nm : ByteArray} (h : nm.size = 0) : M.ba (M.stripL nm.data.toList) = nm := by
  have hl : nm.data.toList = [] := List.eq_nil_of_length_eq_zero (by rw [← Lib.size_eq]; exact h)
  unfold M.stripL
  rw [hl, if_neg (by simp)]
  show M.ba [] = nm
  rw [← hl]; exact (M.ba_toL nm).symm
theorem M.nonempty {x : ByteArray} (h : ¬ x.size = 0) : (x.toList == []) = false := by
  rw [beq_eq_false_iff_ne]
  intro e
  apply h
  rw [Lib.size_eq, ← ByteArray.toList_eq, e]; rfl
theorem M.isempty {x : ByteArray} (h : x.size = 0) : (x.toList == []) = true := by
  rw [beq_iff_eq, ByteArray.toList_eq]; exact List.eq_nil_of_length_eq_zero (by rw [← Lib.size_eq]; exact h)

set_option maxRecDepth 100000 in
set_option maxHeartbeats 1600000 in
theorem sOf_any (h data path : ByteArray) (w : World) (hh : h.size = 512) (hp : path.size ≤ 100000) :
    Calls Tryz.prog 16 #[.string h, .string data, .string path] w fun e w' => e = .returned (M.fval (M.fileL h.data.toList data.data.toList path.data.toList)) ∧ Below w.heap.size w w' := by
  have HO : Hid (∀ (s : ByteArray) W, s.size ≤ 1000 → Calls Tryz.prog 14 #[.string s] W fun e w' => e = .returned (.int .i64 (M.octR s)) ∧ W = w') := fun s W hs => sOctR_any s W (by unfold maxLen; omega)
  have HT : Hid (∀ (s : ByteArray) W, s.size ≤ 1000 → Calls Tryz.prog 27 #[.string s] W fun e w' => e = .returned (.string (M.ba (M.textL s.data.toList))) ∧ W = w') := fun s W hs => sText_any s W (by omega)
  have h156 : 156 < h.size := by omega
  have HV : Hid (∀ (nm : ByteArray), nm.data.toList = (if path.data.toList = [] then M.textL (M.cutL h.data.toList 0 100) else path.data.toList) → M.fileL h.data.toList data.data.toList path.data.toList = ⟨M.ba (if h[156] = 53 then M.stripL nm.data.toList else nm.data.toList), decide (h[156] = 53), M.octR (h.extract 100 107), M.octR (h.extract 136 147), data⟩) := fun nm e => M.fileL_val hh e
  obtain ⟨x1, r1⟩ : ∃ x, h.extract 100 107 = x := ⟨_, rfl⟩
  obtain ⟨x2, r2⟩ : ∃ x, h.extract 136 147 = x := ⟨_, rfl⟩
  obtain ⟨x0, r0⟩ : ∃ x, h.extract 0 100 = x := ⟨_, rfl⟩
  have hx1 : x1.size ≤ 7 := by rw [← r1, ByteArray.size_extract]; omega
  have hx2 : x2.size ≤ 11 := by rw [← r2, ByteArray.size_extract]; omega
  have hx0 : x0.size ≤ 100 := by rw [← r0, ByteArray.size_extract]; omega
  have HR : Hid (h.extract 100 107 = x1 ∧ h.extract 136 147 = x2 ∧ h.extract 0 100 = x0) := ⟨r1, r2, r0⟩
  obtain ⟨m, hm⟩ : ∃ m, m = M.octR x1 := ⟨_, rfl⟩
  obtain ⟨n, hn⟩ : ∃ n, n = M.octR x2 := ⟨_, rfl⟩
  have C1 : Hid (∀ W, Calls Tryz.prog 14 #[.string x1] W fun e w' => e = .returned (.int .i64 m) ∧ W = w') := fun W => by rw [hm]; exact HO.out x1 W (by omega)
  have C2 : Hid (∀ W, Calls Tryz.prog 14 #[.string x2] W fun e w' => e = .returned (.int .i64 n) ∧ W = w') := fun W => by rw [hn]; exact HO.out x2 W (by omega)
  have HMN : Hid (m = M.octR x1 ∧ n = M.octR x2) := ⟨hm, hn⟩
  clear hm hn HO
  go_enter Tryz.func16, Tryz.ntmps16
  go_wp2_with fail
  go_region_with (first | (go_at_call_of 14 x1; refine (C1.out _).mono ?_; rintro e w' ⟨rfl, rfl⟩) | (go_at_call_of 14 x2; refine (C2.out _).mono ?_; rintro e w' ⟨rfl, rfl⟩))
  all_goals
    by_cases hpe : path.size = 0
    case neg =>
      have p1 := M.nonempty hpe
      have HNM : Hid (path.data.toList = (if path.data.toList = [] then M.textL (M.cutL h.data.toList 0 100) else path.data.toList)) := by
        show _ = _
        rw [if_neg (fun e => hpe (by rw [Lib.size_eq, e]; rfl))]
      have HPE : Hid (¬ path.size = 0) := hpe
      clear hpe
      by_cases hk : h[156] = 53
      case neg =>
        have k1 : (((h[156]'h156).toNat : Int) == 53) = false := by rw [beq_eq_false_iff_ne]; exact fun e => hk (UInt8.toNat_inj.1 (by show _ = 53; omega))
        have HF : Hid (M.fileL h.data.toList data.data.toList path.data.toList = ⟨path, false, M.octR (h.extract 100 107), M.octR (h.extract 136 147), data⟩) := by show _ = _; rw [HV.out path HNM.out, if_neg hk, decide_eq_false hk]; congr 1
        go_wp2
        exact bodyPost_ret (v := .agg #[.string (path), .bool false, .int .i64 m, .int .i64 n, .string data]) (by simp [results, Tryz.results16, go_sem]) rfl ⟨by rw [HF.out, HR.out.1, HR.out.2.1, ← HMN.out.1, ← HMN.out.2]; rfl, by repeat (first | exact Below.refl _ _ | refine Below.setCell ?_ (by simp) _ | refine Below.drew ?_ | refine Below.alloc ?_ (by simp) _)⟩
      have k1 : (((h[156]'h156).toNat : Int) == 53) = true := by rw [hk]; rfl
      by_cases hz : path.size = 0
      case pos =>
        exact absurd hz HPE.out
      have z1 := M.nonempty hz
      obtain ⟨r, hr⟩ : ∃ r, path.size = r + 1 := ⟨path.size - 1, by omega⟩
      have hrl : r < path.size := by omega
      by_cases hc : path[r] = 47
      case pos =>
        have c1 : (((path[r]'hrl).toNat : Int) == 47) = true := by rw [hc]; rfl
        have HF : Hid (M.fileL h.data.toList data.data.toList path.data.toList = ⟨path.extract 0 r, true, M.octR (h.extract 100 107), M.octR (h.extract 136 147), data⟩) := by show _ = _; rw [HV.out path HNM.out, if_pos hk, decide_eq_true hk, M.strip_dir hr hrl hc]
        clear hz hk hc
        go_wp2
        exact bodyPost_ret (v := .agg #[.string (path.extract 0 r), .bool true, .int .i64 m, .int .i64 n, .string data]) (by simp [results, Tryz.results16, go_sem]) rfl ⟨by rw [HF.out, HR.out.1, HR.out.2.1, ← HMN.out.1, ← HMN.out.2]; rfl, by repeat (first | exact Below.refl _ _ | refine Below.setCell ?_ (by simp) _ | refine Below.drew ?_ | refine Below.alloc ?_ (by simp) _)⟩
      have c1 : (((path[r]'hrl).toNat : Int) == 47) = false := by rw [beq_eq_false_iff_ne]; exact fun e => hc (UInt8.toNat_inj.1 (by show _ = 47; omega))
      have HF : Hid (M.fileL h.data.toList data.data.toList path.data.toList = ⟨path, true, M.octR (h.extract 100 107), M.octR (h.extract 136 147), data⟩) := by show _ = _; rw [HV.out path HNM.out, if_pos hk, decide_eq_true hk, M.strip_not hr hrl hc]
      clear hz hk hc
      go_wp2
      exact bodyPost_ret (v := .agg #[.string (path), .bool true, .int .i64 m, .int .i64 n, .string data]) (by simp [results, Tryz.results16, go_sem]) rfl ⟨by rw [HF.out, HR.out.1, HR.out.2.1, ← HMN.out.1, ← HMN.out.2]; rfl, by repeat (first | exact Below.refl _ _ | refine Below.setCell ?_ (by simp) _ | refine Below.drew ?_ | refine Below.alloc ?_ (by simp) _)⟩
    have p1 := M.isempty hpe
    obtain ⟨t, ht⟩ : ∃ t, t = M.ba (M.textL x0.data.toList) := ⟨_, rfl⟩
    have HNM : Hid (t.data.toList = (if path.data.toList = [] then M.textL (M.cutL h.data.toList 0 100) else path.data.toList)) := by
      show _ = _
      rw [if_pos (List.eq_nil_of_length_eq_zero (by rw [← Lib.size_eq]; exact hpe)), ht, ← HR.out.2.2, M.cut_mk h 0 100]
      rfl
    have hts : t.size ≤ 100 := by
      rw [ht, M.ba_size]
      refine Nat.le_trans (List.takeWhile_prefix _).length_le ?_
      rw [← Lib.size_eq]; exact hx0
    have CT : Hid (∀ W, Calls Tryz.prog 27 #[.string x0] W fun e w' => e = .returned (.string t) ∧ W = w') := fun W => by rw [ht]; exact HT.out x0 W (by omega)
    clear hpe ht
    go_wp2_with fail
    refine (CT.out _).mono ?_
    rintro e w1 ⟨rfl, rfl⟩
    by_cases hk : h[156] = 53
    case neg =>
      have k1 : (((h[156]'h156).toNat : Int) == 53) = false := by rw [beq_eq_false_iff_ne]; exact fun e => hk (UInt8.toNat_inj.1 (by show _ = 53; omega))
      have HF : Hid (M.fileL h.data.toList data.data.toList path.data.toList = ⟨t, false, M.octR (h.extract 100 107), M.octR (h.extract 136 147), data⟩) := by show _ = _; rw [HV.out t HNM.out, if_neg hk, decide_eq_false hk]; congr 1
      go_wp2
      exact bodyPost_ret (v := .agg #[.string (t), .bool false, .int .i64 m, .int .i64 n, .string data]) (by simp [results, Tryz.results16, go_sem]) rfl ⟨by rw [HF.out, HR.out.1, HR.out.2.1, ← HMN.out.1, ← HMN.out.2]; rfl, by repeat (first | exact Below.refl _ _ | refine Below.setCell ?_ (by simp) _ | refine Below.drew ?_ | refine Below.alloc ?_ (by simp) _)⟩
    have k1 : (((h[156]'h156).toNat : Int) == 53) = true := by rw [hk]; rfl
    by_cases hz : t.size = 0
    case pos =>
      have z1 := M.isempty hz
      have HF : Hid (M.fileL h.data.toList data.data.toList path.data.toList = ⟨t, true, M.octR (h.extract 100 107), M.octR (h.extract 136 147), data⟩) := by show _ = _; rw [HV.out t HNM.out, if_pos hk, decide_eq_true hk, M.strip_nil hz]
      clear hz hk
      go_wp2
      exact bodyPost_ret (v := .agg #[.string (t), .bool true, .int .i64 m, .int .i64 n, .string data]) (by simp [results, Tryz.results16, go_sem]) rfl ⟨by rw [HF.out, HR.out.1, HR.out.2.1, ← HMN.out.1, ← HMN.out.2]; rfl, by repeat (first | exact Below.refl _ _ | refine Below.setCell ?_ (by simp) _ | refine Below.drew ?_ | refine Below.alloc ?_ (by simp) _)⟩
    have z1 := M.nonempty hz
    obtain ⟨r, hr⟩ : ∃ r, t.size = r + 1 := ⟨t.size - 1, by omega⟩
    have hrl : r < t.size := by omega
    by_cases hc : t[r] = 47
    case pos =>
      have c1 : (((t[r]'hrl).toNat : Int) == 47) = true := by rw [hc]; rfl
      have HF : Hid (M.fileL h.data.toList data.data.toList path.data.toList = ⟨t.extract 0 r, true, M.octR (h.extract 100 107), M.octR (h.extract 136 147), data⟩) := by show _ = _; rw [HV.out t HNM.out, if_pos hk, decide_eq_true hk, M.strip_dir hr hrl hc]
      clear hz hk hc
      go_wp2
      exact bodyPost_ret (v := .agg #[.string (t.extract 0 r), .bool true, .int .i64 m, .int .i64 n, .string data]) (by simp [results, Tryz.results16, go_sem]) rfl ⟨by rw [HF.out, HR.out.1, HR.out.2.1, ← HMN.out.1, ← HMN.out.2]; rfl, by repeat (first | exact Below.refl _ _ | refine Below.setCell ?_ (by simp) _ | refine Below.drew ?_ | refine Below.alloc ?_ (by simp) _)⟩
    have c1 : (((t[r]'hrl).toNat : Int) == 47) = false := by rw [beq_eq_false_iff_ne]; exact fun e => hc (UInt8.toNat_inj.1 (by show _ = 47; omega))
    have HF : Hid (M.fileL h.data.toList data.data.toList path.data.toList = ⟨t, true, M.octR (h.extract 100 107), M.octR (h.extract 136 147), data⟩) := by show _ = _; rw [HV.out t HNM.out, if_pos hk, decide_eq_true hk, M.strip_not hr hrl hc]
    clear hz hk hc
    go_wp2
    exact bodyPost_ret (v := .agg #[.string (t), .bool true, .int .i64 m, .int .i64 n, .string data]) (by simp [results, Tryz.results16, go_sem]) rfl ⟨by rw [HF.out, HR.out.1, HR.out.2.1, ← HMN.out.1, ← HMN.out.2]; rfl, by repeat (first | exact Below.refl _ _ | refine Below.setCell ?_ (by simp) _ | refine Below.drew ?_ | refine Below.alloc ?_ (by simp) _)⟩
end Go.Proofs.YthiojdemcaaihaaGreatDoor
