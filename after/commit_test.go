package after_test

import (
	"math"
	"testing"

	"ledgerstone/after"
	"ledgerstone/api"
)

// P19.2: owners and versions that may be, the least and the greatest: what waited is due with just that version.
func TestCommitOfOwnersAndVersions(t *testing.T) {
	for _, owner := range someOwners() {
		for _, version := range someVersions() {
			q := after.New[string]()
			puts(t, q, owner, "a", "b")
			commits(t, q, owner, version, 2)
			length(t, q, 0, 2)
			takes(t, q, version-1)
			takes(t, q, version, entry{version, owner, "a"}, entry{version, owner, "b"})
		}
	}
}

// P19.2: owners and versions that may not be: ErrArg, no number, and nothing changes.
func TestCommitRefuses(t *testing.T) {
	q := after.New[string]()
	puts(t, q, 1, "a", "b")
	puts(t, q, 2, "c")
	commits(t, q, 2, 6, 1)
	refuses := func(owner int, version int64) {
		t.Helper()
		refusesCommit(t, q, owner, version, api.ErrArg)
		length(t, q, 2, 1)
		marks(t, q, 1, 2)
	}
	for _, owner := range noOwners() {
		for _, version := range append(noVersions(), someVersions()...) {
			refuses(owner, version)
		}
	}
	for _, owner := range someOwners() {
		for _, version := range noVersions() {
			refuses(owner, version)
		}
	}
	commits(t, q, 1, 5, 2)
	takes(t, q, 9, entry{5, 1, "a"}, entry{5, 1, "b"}, entry{6, 2, "c"})
}

// P19.2: of an owner with no action, with one, with several.
func TestCommitOfSoMany(t *testing.T) {
	for n := range 30 {
		q := after.New[int]()
		var want []after.Entry[int]
		for k := range n {
			puts(t, q, 4, k)
			want = append(want, after.Entry[int]{Version: 8, Owner: 4, Action: k})
		}
		commits(t, q, 4, 8, n)
		length(t, q, 0, n)
		takes(t, q, 8, want...)
	}
}

// P19.2: what stands between actions of others is due in its order; those of others wait on.
func TestCommitBetweenOthers(t *testing.T) {
	q := after.New[string]()
	for _, s := range []string{"a", "b", "c"} {
		puts(t, q, 3, s+"3")
		puts(t, q, 1, s+"1")
		puts(t, q, 2, s+"2", s+s+"2")
	}
	length(t, q, 12, 0)
	commits(t, q, 1, 10, 3)
	length(t, q, 9, 3)
	marks(t, q, 1, 0)
	marks(t, q, 2, 6)
	marks(t, q, 3, 3)
	takes(t, q, 10, entry{10, 1, "a1"}, entry{10, 1, "b1"}, entry{10, 1, "c1"})
	commits(t, q, 2, 11, 6)
	length(t, q, 3, 6)
	takes(t, q, 11, entry{11, 2, "a2"}, entry{11, 2, "aa2"}, entry{11, 2, "b2"}, entry{11, 2, "bb2"}, entry{11, 2, "c2"}, entry{11, 2, "cc2"})
	commits(t, q, 3, 12, 3)
	takes(t, q, 12, entry{12, 3, "a3"}, entry{12, 3, "b3"}, entry{12, 3, "c3"})
}

// P19.2: a second Commit finds nothing, and changes nothing of what is due, whatever its version is.
func TestCommitTwice(t *testing.T) {
	for _, version := range someVersions() {
		q := after.New[string]()
		puts(t, q, 1, "a", "b")
		commits(t, q, 1, 2, 2)
		commits(t, q, 1, version, 0)
		length(t, q, 0, 2)
		takes(t, q, math.MaxInt64, entry{2, 1, "a"}, entry{2, 1, "b"})
		commits(t, q, 1, version, 0)
		length(t, q, 0, 0)
	}
}

// P19.2: what an owner puts off behind a Commit waits on, till another one, that may have any version.
func TestLaterBehindCommit(t *testing.T) {
	for _, version := range []int64{4, 5, 6} {
		q := after.New[string]()
		puts(t, q, 1, "a")
		commits(t, q, 1, 5, 1)
		puts(t, q, 1, "b")
		length(t, q, 1, 1)
		takes(t, q, math.MaxInt64, entry{5, 1, "a"})
		length(t, q, 1, 0)
		takes(t, q, math.MaxInt64)
		commits(t, q, 1, version, 1)
		takes(t, q, version, entry{version, 1, "b"})
	}
}

// P19.2: with a version below, equal to and above those that are due: each entry has its place.
func TestCommitBetweenVersions(t *testing.T) {
	due := []entry{{3, 1, "a"}, {3, 1, "b"}, {5, 2, "c"}, {7, 1, "d"}}
	for version := int64(0); version <= 9; version++ {
		q := after.New[string]()
		puts(t, q, 2, "c")
		commits(t, q, 2, 5, 1)
		puts(t, q, 1, "d")
		commits(t, q, 1, 7, 1)
		puts(t, q, 1, "a", "b")
		commits(t, q, 1, 3, 2)
		puts(t, q, 3, "x", "y")
		commits(t, q, 3, version, 2)
		var want []entry
		for _, e := range due {
			if e.Version <= version {
				want = append(want, e)
			}
		}
		want = append(want, entry{version, 3, "x"}, entry{version, 3, "y"})
		for _, e := range due {
			if e.Version > version {
				want = append(want, e)
			}
		}
		length(t, q, 0, 6)
		takes(t, q, 9, want...)
	}
}

// P19.2: one version that several owners have: in the order in which they were put there, not that in which they were put off, nor that of the owners.
func TestCommitOfOneVersion(t *testing.T) {
	q := after.New[string]()
	puts(t, q, 1, "a")
	puts(t, q, 2, "b")
	puts(t, q, 3, "c")
	puts(t, q, 1, "d")
	puts(t, q, 2, "e")
	commits(t, q, 2, 6, 2)
	commits(t, q, 3, 6, 1)
	commits(t, q, 1, 6, 2)
	puts(t, q, 2, "f")
	commits(t, q, 2, 6, 1)
	takes(t, q, 6, entry{6, 2, "b"}, entry{6, 2, "e"}, entry{6, 3, "c"}, entry{6, 1, "a"}, entry{6, 1, "d"}, entry{6, 2, "f"})
}

// P19.2: as many owners as there is room for, of few versions that come by turns: by versions, and of one version in the order of the Commits.
func TestCommitsOfManyOwners(t *testing.T) {
	q := after.New[int]()
	for owner := 1; owner <= 1024; owner++ {
		puts(t, q, owner, -owner)
	}
	for owner := 1024; owner >= 1; owner-- {
		commits(t, q, owner, int64(owner%7), 1)
	}
	var want []after.Entry[int]
	for version := range 7 {
		for owner := 1024; owner >= 1; owner-- {
			if owner%7 == version {
				want = append(want, after.Entry[int]{Version: int64(version), Owner: owner, Action: -owner})
			}
		}
	}
	takes(t, q, 6, want...)
}

// P19.2: versions that lie as far apart as may be stand in order.
func TestCommitOfFarVersions(t *testing.T) {
	q := after.New[string]()
	for _, version := range []int64{math.MaxInt64, 0, 1 << 62, 1, math.MaxInt64 - 1, 1 << 32, 1<<32 + 1} {
		puts(t, q, 1, "a")
		commits(t, q, 1, version, 1)
	}
	takes(t, q, 0, entry{0, 1, "a"})
	takes(t, q, 1<<32, entry{1, 1, "a"}, entry{1 << 32, 1, "a"})
	takes(t, q, math.MaxInt64-1, entry{1<<32 + 1, 1, "a"}, entry{1 << 62, 1, "a"}, entry{math.MaxInt64 - 1, 1, "a"})
	takes(t, q, math.MaxInt64, entry{math.MaxInt64, 1, "a"})
}
