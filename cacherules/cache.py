"""One cache that is told begin, use, drop, holds and order, and what it answers to each.

The document has the program import nothing, so the rules that misses.py counts by stand
here once more, for a cache that can be asked who left, and that drops keys.
"""

BEGIN = 1
USE = 2
DROP = 3
HOLDS = 4
ORDER = 5

LAST_RULE = 4
MOST_ROOM = 1024
MOST_USES = 4294967295


class Cache:
    """The keys that are there, as they stand.

    `uses` has every key that is there, in whichever line it stands. By rule 2 the line
    is by last use, so that only the counts are to be looked at besides.
    """

    def __init__(self):
        self.rule = 0
        self.room = 0
        self.line = []
        self.safe = []
        self.uses = {}
        self.marked = {}

    def begin(self, rule, room):
        """Begin anew with no key there; or answer -2 and change nothing."""
        if not (0 <= rule <= LAST_RULE and 1 <= room <= MOST_ROOM):
            return [-2]
        self.rule = rule
        self.room = room
        self.line = []
        self.safe = []
        self.uses = {}
        self.marked = {}
        return [0]

    def use(self, key):
        """Answer 1 where the key was there, 0 where it has come, or 2 and the key that left for it."""
        if key in self.uses:
            self.use_again(key)
            return [1]
        answer = [0]
        if len(self.uses) == self.room:
            answer = [2, self.leave()]
        self.line.append(key)
        self.uses[key] = 1
        return answer

    def drop(self, key):
        """Answer whether the key was there, which it is no more."""
        if key not in self.uses:
            return [0]
        self.forget(key)
        return [1]

    def holds(self, key):
        """Answer whether the key is there."""
        if key in self.uses:
            return [1]
        return [0]

    def order(self):
        """Answer how many keys are there, then they."""
        keys = self.line + self.safe
        if self.rule == 2:
            keys = self.by_uses()
        return [len(keys)] + keys

    def use_again(self, key):
        """Count, move or mark a key that is there; by rule 0 nothing moves."""
        self.uses[key] = min(self.uses[key] + 1, MOST_USES)
        if self.rule == 1 or self.rule == 2:
            self.take_out(key)
            self.line.append(key)
        elif self.rule == 3:
            self.marked[key] = True
        elif self.rule == 4:
            self.take_out(key)
            self.safe.append(key)
            self.give_back()

    def give_back(self):
        """Put the first safe key at the end of the other line where they're too many."""
        if len(self.safe) > self.room // 2:
            self.line.append(self.safe.pop(0))

    def leave(self):
        """Let one key leave, and answer which."""
        if self.rule == 2:
            gone = self.by_uses()[0]
        else:
            self.spare_marked()
            # The safe ones never fill all of the room, so the line has a first key.
            gone = self.line[0]
        self.forget(gone)
        return gone

    def spare_marked(self):
        """Send each marked key at the front to the end, without its mark."""
        while self.line[0] in self.marked:
            spared = self.line.pop(0)
            self.marked.pop(spared)
            self.line.append(spared)

    def by_uses(self):
        """Answer the keys, the fewest uses first.

        Keys with as many uses stay as the line has them: by last use.
        """
        return sorted(self.line, key=lambda one: self.uses[one])

    def take_out(self, key):
        """Take the key out of the line it stands in."""
        if key in self.safe:
            self.safe.remove(key)
        else:
            self.line.remove(key)

    def forget(self, key):
        """Let the key be there no more, so that it comes again without its uses and its mark."""
        self.take_out(key)
        self.uses.pop(key)
        if key in self.marked:
            self.marked.pop(key)


def length_of(kind):
    """Answer how many numbers a call has, its own number among them."""
    if kind == BEGIN:
        return 3
    if kind == ORDER:
        return 1
    return 2


def answer_of(cache, call):
    """Tell the cache one call, and give back what it answers."""
    kind = call[0]
    if kind == BEGIN:
        return cache.begin(call[1], call[2])
    if kind == USE:
        return cache.use(call[1])
    if kind == DROP:
        return cache.drop(call[1])
    if kind == HOLDS:
        return cache.holds(call[1])
    return cache.order()


def answers(calls):
    """Answer each of the calls on one new cache: how many numbers, then these."""
    cache = Cache()
    given = []
    place = 0
    while place < len(calls):
        length = length_of(calls[place])
        answer = answer_of(cache, calls[place:place + length])
        given.append(len(answer))
        given.extend(answer)
        place += length
    return given
